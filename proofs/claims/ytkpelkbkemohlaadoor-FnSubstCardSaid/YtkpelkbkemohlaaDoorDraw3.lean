/- The model's cursor: slices of levels; the draw of LevelSubst. -/
import Derived.Test.YtkpelkbkemohlaaDoorDraw2
import Derived.Test.YtkpelkbkemohlaaDoorLvlLaws
namespace Go.Proofs.YtkpelkbkemohlaaDoor
open Go.RowKit

/-- a row of levels of one's own, each with a row of tokens of its own -/
def LvlD (w : World) (base g k cap : Nat) (ls : List (List (Int × Int))) : Prop :=
  ls.length = k ∧ ∃ vals : List Value, w.ownsRow base 43 1 (.slice (some ⟨g, 0, none⟩) k cap) k vals ∧
    ∀ i, i < k → ∃ gi ci, vals[i]? = some (.slice (some ⟨gi, 0, none⟩) (ls.getD i []).length ci) ∧ OwnT w base (some ⟨gi, 0, none⟩) (ls.getD i []).length ci (ls.getD i []) ∧ (ls.getD i []).length ≤ 25
theorem LvlD.kp {bc base g k cap : Nat} {w w' : World} {ls : List (List (Int × Int))} (h : LvlD w base g k cap ls) (hk : Kp bc w w') (hb : bc < base) : LvlD w' base g k cap ls := by
  obtain ⟨h1, vals, h2, h3⟩ := h
  refine ⟨h1, vals, Kp.own h2 hk hb, fun i hi => ?_⟩
  obtain ⟨gi, ci, q1, q2, q3⟩ := h3 i hi
  exact ⟨gi, ci, q1, Kp.own q2 hk hb, q3⟩
theorem LvlD.below {base g k cap : Nat} {w w' : World} {ls : List (List (Int × Int))} (h : LvlD w base g k cap ls) (hb : Below w.heap.size w w') : LvlD w' base g k cap ls := by
  obtain ⟨h1, vals, h2, h3⟩ := h
  refine ⟨h1, vals, own_below' h2 hb, fun i hi => ?_⟩
  obtain ⟨gi, ci, q1, q2, q3⟩ := h3 i hi
  exact ⟨gi, ci, q1, own_below' q2 hb, q3⟩
theorem LvlD.base {base base' g k cap : Nat} {w : World} {ls : List (List (Int × Int))} (h : LvlD w base g k cap ls) (hb : base' ≤ base) : LvlD w base' g k cap ls := by
  obtain ⟨h1, vals, h2, h3⟩ := h
  refine ⟨h1, vals, own_base h2 hb, fun i hi => ?_⟩
  obtain ⟨gi, ci, q1, q2, q3⟩ := h3 i hi
  exact ⟨gi, ci, q1, own_base q2 hb, q3⟩
theorem LvlD.reads {base g k cap : Nat} {w : World} {ls : List (List (Int × Int))} (h : LvlD w base g k cap ls) : LvlR w w.heap.size (some ⟨g, 0, none⟩) k ls := by
  obtain ⟨h1, vals, h2, h3⟩ := h
  refine ⟨h1, fun _ => ⟨g, 0, rfl, (h2.lt g rfl).2, fun i hi => ?_⟩⟩
  obtain ⟨gi, ci, q1, q2, q3⟩ := h3 i hi
  refine ⟨_, _, ci, ?_, OwnT.reads q2, by omega⟩
  have := h2.cells (g := g) rfl i _ q1
  rw [own_adds] at this
  rw [Nat.zero_add]
  exact this
theorem LvlD.bulk {base g k cap : Nat} {w : World} {ls : List (List (Int × Int))} (h : LvlD w base g k cap ls) (hk : k ≤ 10) : bulk ls ≤ 1048576 := by
  obtain ⟨h1, vals, h2, h3⟩ := h
  have : ∀ m, m ≤ k → tot (ls.take m) ≤ m * 25 := by
    intro m
    induction m with
    | zero => intro _; simp [tot]
    | succ m ih =>
      intro hm
      obtain ⟨_, _, _, _, q3⟩ := h3 m (by omega)
      rw [tot_take ls m (by omega)]
      have := ih (by omega)
      omega
  have h4 := this k (Nat.le_refl _)
  rw [List.take_of_length_le (by omega)] at h4
  unfold Proofs.YtkpelkbkemohlaaDoor.bulk
  omega
/-- one level more -/
theorem lvlD_push {base g k cap g2 cap2 g1 c1 : Nat} {w0 w3 : World} {ls : List (List (Int × Int))} {l : List (Int × Int)} {vals : List Value} (hl : ls.length = k)
    (hown' : w3.ownsRow base 43 1 (.slice (some ⟨g2, 0, none⟩) (k + 1) cap2) (k + 1) (vals ++ [.slice (some ⟨g1, 0, none⟩) l.length c1]))
    (h2 : w0.ownsRow base 43 1 (.slice (some ⟨g, 0, none⟩) k cap) k vals)
    (h3 : ∀ i, i < k → ∃ gi ci, vals[i]? = some (.slice (some ⟨gi, 0, none⟩) (ls.getD i []).length ci) ∧ OwnT w0 base (some ⟨gi, 0, none⟩) (ls.getD i []).length ci (ls.getD i []) ∧ (ls.getD i []).length ≤ 25)
    (ho : OwnT w0 base (some ⟨g1, 0, none⟩) l.length c1 l) (h25 : l.length ≤ 25) (hg : w0.grownBy w3 (Value.slice (some ⟨g, 0, none⟩) k cap).ownBlock) : LvlD w3 base g2 (k + 1) cap2 (ls ++ [l]) := by
  obtain ⟨cs, hblk⟩ := own_blk h2 g rfl
  have hvl : vals.length = k := by have := h2.1; omega
  have keep : ∀ {gi ci m : Nat} {t : List (Int × Int)}, OwnT w0 base (some ⟨gi, 0, none⟩) m ci t → OwnT w3 base (some ⟨gi, 0, none⟩) m ci t := by
    intro gi ci m t h
    have hne := own_apart h hblk (by decide)
    exact h.kept hg (.inr (fun he => hne he))
  refine ⟨by simp [hl], _, hown', fun i hi => ?_⟩
  by_cases hik : i < k
  · obtain ⟨gi, ci, q1, q2, q3⟩ := h3 i hik
    have hg' : (ls ++ [l]).getD i [] = ls.getD i [] := by
      rw [List.getD_eq_getElem?_getD, List.getElem?_append_left (by omega), ← List.getD_eq_getElem?_getD]
    rw [hg']
    exact ⟨gi, ci, by rw [List.getElem?_append_left (by omega)]; exact q1, keep q2, q3⟩
  · obtain rfl : i = k := by omega
    have hg' : (ls ++ [l]).getD i [] = l := by
      rw [List.getD_eq_getElem?_getD, List.getElem?_append_right (by omega), hl]
      simp
    rw [hg']
    exact ⟨g1, c1, by rw [List.getElem?_append_right (by omega), hvl]; simp, keep ho, h25⟩

set_option maxRecDepth 100000 in
set_option maxHeartbeats 2000000 in
theorem sameToks_any (w : World) (B : Nat) (A1 A2 : Option Addr) (n c1 c2 : Nat) (l : List (Int × Int)) (hB : B ≤ w.heap.size) (h1 : TokR w B A1 n l) (h2 : TokR w B A2 n l) (hn : n ≤ 1048576) :
    Calls Tryd.prog 21 #[.slice A1 n c1, .slice A2 n c2] w fun e w' => e = .returned (.bool true) ∧ Below w.heap.size w w' := by
  have en : ((n : Int) != (n : Int)) = false := by simp
  go_enter Tryd.func21, Tryd.ntmps21
  go_wp2
  go_loopw [5] (fun i wr => ∃ k : Nat, k ≤ n ∧ i = .int .i64 k ∧ Below w.heap.size w wr) (fun i _ => n - (intOf i).toNat)
  case atStart => exact ⟨0, Nat.zero_le _, rfl, Below.refl _ _⟩
  case round =>
    obtain ⟨k, hk, rfl, hbel⟩ := hrel
    by_cases hlt : k < n
    · obtain ⟨b, off, rfl, hb, hc⟩ := h1.2 (by omega)
      obtain ⟨x1, x2⟩ := hc k hlt
      obtain ⟨b', off', rfl, hb', hc'⟩ := h2.2 (by omega)
      obtain ⟨y1, y2⟩ := hc' k hlt
      obtain ⟨t, ht⟩ : ∃ t, l.getD k (0, 0) = t := ⟨_, rfl⟩
      rw [ht] at x1 x2 y1 y2
      obtain ⟨p, q⟩ := t
      have k1 := (hbel.cell (p := ⟨b, off + k * 2, none⟩) (by show b < _; omega)).trans x1
      have k2 := (hbel.cell (p := ⟨b, off + k * 2 + 1, none⟩) (by show b < _; omega)).trans x2
      have k3 := (hbel.cell (p := ⟨b', off' + k * 2, none⟩) (by show b' < _; omega)).trans y1
      have k4 := (hbel.cell (p := ⟨b', off' + k * 2 + 1, none⟩) (by show b' < _; omega)).trans y2
      have HH1 := Lib.hid h1
      have HH2 := Lib.hid h2
      clear x1 x2 y1 y2 hc hc' ht h1 h2
      go_wp2_with fail
      go_region
      go_wp2
      go_roundw
      case rel => exact ⟨k + 1, by omega, by go_num, hbel.drew⟩
      case measure => simp [intOf]; omega
    · obtain rfl : k = n := by omega
      go_wp2
      go_ret
      exact ⟨rfl, hbel⟩

set_option maxRecDepth 100000 in
set_option maxHeartbeats 2000000 in
theorem withLevels_any (w : World) (bc : Nat) (A : Option Addr) (n c K m : Nat) (hc : Cur w bc A n c K) (hK : K ≤ 600000) (hm : m ≤ 6) (hn : n ≤ 1048576) :
    Calls Tryd.prog 67 #[.pointer (some ⟨bc, 0, none⟩), .int .i64 m] w fun e w' => ∃ g cap ls, e = .returned (.slice (some ⟨g, 0, none⟩) m cap) ∧ LvlD w' w.heap.size g m cap ls ∧ Cur w' bc A n c (K + 96) ∧ Kp bc w w' := by
  obtain ⟨i0, hi, hz0, hz1, hz2⟩ := info_parts info_level
  have hlt := hc.lt
  have ho0 : (w.alloc (.cells #[] 43)).ownsRow w.heap.size 43 1 (.slice (some ⟨w.heap.size, 0, none⟩) 0 0) 0 [] := World.ownsRow_made w #[] 0 (Nat.le_refl _) (by simp [maxLen]) (by simp)
  have HD0 : Hid (LvlD (w.alloc (.cells #[] 43)) w.heap.size w.heap.size 0 0 []) := ⟨rfl, [], ho0, fun i hi => absurd hi (by omega)⟩
  have HC0 := Lib.hid (hc.alloc (.cells #[] 43))
  have HK0 := Lib.hid ((Kp.refl bc w).alloc (.cells #[] 43))
  clear ho0 hc
  go_enter Tryd.func67, Tryd.ntmps67
  go_wp2
  go_loopw [5, 6] (fun v i wr => ∃ (k g cap : Nat) (ls : List (List (Int × Int))), k ≤ m ∧ i = .int .i64 k ∧ v = .slice (some ⟨g, 0, none⟩) k cap ∧ LvlD wr w.heap.size g k cap ls ∧ Cur wr bc A n c (K + 16 * k) ∧ Kp bc w wr) (fun _ i _ => m - (intOf i).toNat)
  case atStart => exact ⟨0, _, 0, [], Nat.zero_le _, rfl, rfl, HD0.out, HC0.out, HK0.out⟩
  case round =>
    obtain ⟨k, g, cap, ls, hk, rfl, rfl, hD, hcr, hkr⟩ := hrel
    by_cases hkm : k < m
    · have hkm' : (k : Int) < (m : Int) := by omega
      have hlv := level_any bc A n c hn 1 wr (K + 16 * k) (by omega) hcr (by show K + 16 * k + 16 ≤ 800000; omega)
      have HLV := Lib.hid hlv
      have hszr := hkr.size
      clear hlv
      go_wp2_with fail
      refine HLV.out.mono ?_
      rintro e w2 ⟨g1, c1, l, rfl, h11, h12, ho1, hc2, hk2⟩
      have hD2 := hD.kp hk2 (by omega)
      have hk02 := hkr.trans hk2
      have hs2 := hk02.size
      have ho1' := own_base (base' := w.heap.size) ho1 hszr
      obtain ⟨hl, vals, hv2, hv3⟩ := hD2
      obtain ⟨L, hL⟩ : ∃ L, l.length = L := ⟨_, rfl⟩
      rw [hL] at h11 h12 ⊢
      clear hD hcr hkr hk2 ho1 HLV
      go_wp2_with (at_builtin; refine wpList_append_own _ rfl (.tmp 13) (.tmp 17) 38 rfl w.heap.size 43 i0 (.agg #[.slice none 0 0]) 1 24 Tryd.underlying38 hi hz0 hz1 hz2 rfl (by decide) (.slice (some ⟨g, 0, none⟩) k cap) k vals rfl (hv2.alloc _) ⟨w2.heap.size, 0, none⟩ 1 1 [.slice (some ⟨g1, 0, none⟩) L c1] rfl rfl (cell_one_new _ _ _) (fun u hu => by simp at hu; subst hu; rfl) (by unfold maxLen; omega) (by omega) (by simp; omega) ?_; intro v' w3 hown' hgrow hnil)
      obtain ⟨g2, cap2, rfl⟩ : ∃ g' cap', v' = .slice (some ⟨g', 0, none⟩) (k + 1) cap' := by
        rcases hown'.2 with ⟨h0, _⟩ | ⟨g', cap', _, h0, _⟩
        · have := (hnil.1 h0).1
          cases this
        · exact ⟨g', cap', h0⟩
      have HD : Hid (LvlD w3 w.heap.size g2 (k + 1) cap2 (ls ++ [l])) := by
        rw [← hL] at hown'
        refine lvlD_push hl hown' (hv2.alloc _) (fun i hi => ?_) (ho1'.alloc _) (by omega) hgrow
        obtain ⟨gi, ci, q1, q2, q3⟩ := hv3 i hi
        exact ⟨gi, ci, q1, q2.alloc _, q3⟩
      have HC := Lib.hid ((hc2.alloc _).grown hgrow (fun k h => by have := (hv2.lt k h).1; omega))
      have HK := Lib.hid ((hk02.alloc _).more hgrow (fun k h => (hv2.lt k h).1))
      clear hown' hgrow hnil hv2 hv3 hc2 hk02 ho1'
      go_wp2
      go_roundw
      case rel => exact ⟨k + 1, g2, cap2, ls ++ [l], by omega, by go_num, rfl, HD.out, HC.out.more (by show K + 16 * k + 16 ≤ _; omega), HK.out⟩
      case measure => simp [intOf]; omega
    · obtain rfl : k = m := by omega
      go_wp2
      go_ret
      exact ⟨g, cap, ls, rfl, hD, hcr.more (by omega), hkr⟩

set_option maxRecDepth 100000 in
set_option maxHeartbeats 2000000 in
theorem drawSubst_any (w : World) (B : Nat) (A : Option Addr) (n c : Nat) (hB : B ≤ w.heap.size) (hb : BytR w B A n) (hn : n ≤ 1048576) :
    Calls Tryd.prog 26 #[.slice A n c] w fun e w' => ∃ g cap l g2 cap2 m ls, e = .returned (.tuple #[.slice (some ⟨g, 0, none⟩) l.length cap, .slice (some ⟨g2, 0, none⟩) m cap2]) ∧ 1 ≤ l.length ∧ l.length ≤ 25 ∧ m ≤ 6 ∧ OwnT w' w.heap.size (some ⟨g, 0, none⟩) l.length cap l ∧ LvlD w' w.heap.size g2 m cap2 ls ∧ Below w.heap.size w w' := by
  obtain ⟨i0, hi, hz0, hz1, hz2⟩ := info_parts info_level
  go_enter Tryd.func26, Tryd.ntmps26
  go_wp2_with fail
  refine (open_any w B A n c hB hb hn).mono ?_
  rintro e w1 ⟨rfl, hb1, hc1⟩
  have hs1 := hb1.size
  have hlt := hc1.lt
  go_wp2_with fail
  refine (badLevel_any w1 w.heap.size A n c 0 hc1 (by omega) hn).mono ?_
  rintro e w2 ⟨g, cap, l, rfl, h1, h2, ho, hc2, hk2⟩
  obtain ⟨L, hL⟩ : ∃ L, l.length = L := ⟨_, rfl⟩
  rw [hL] at h1 h2 ho ⊢
  clear hc1
  go_wp2_with fail
  refine (pick_any w2 w.heap.size A n c _ 3 hc2 (by omega) (by omega) hn).mono ?_
  rintro e w3 ⟨r3, rfl, hr3, hc3, hk3⟩
  have ho3 := Kp.own ho hk3 (by omega)
  have hk13 := hk2.trans hk3
  clear hc2 hk2 hk3 ho
  go_wp2_with fail
  refine (pick_any w3 w.heap.size A n c _ 2 hc3 (by omega) (by omega) hn).mono ?_
  rintro e w4 ⟨r4, rfl, hr4, hc4, hk4⟩
  have ho4 := Kp.own ho3 hk4 (by omega)
  have hk14 := hk13.trans hk4
  have hs4 := hk14.size
  clear hc3 hk13 hk4 ho3
  obtain ⟨m, hm⟩ : ∃ m : Nat, 3 + r3 - r4 = m := ⟨_, rfl⟩
  have hm6 : m ≤ 5 := by omega
  have hcast : (3 : Int) + (r3 : Int) - (r4 : Int) = (m : Int) := by omega
  have hwl := withLevels_any w4 w.heap.size A n c _ m hc4 (by omega) (by omega) hn
  have HWL := Lib.hid hwl
  clear hwl hm
  go_wp2_with fail
  refine HWL.out.mono ?_
  rintro e w5 ⟨g5, cap5, ls, rfl, hD5, hc5, hk5⟩
  have ho5 := Kp.own ho4 hk5 (by omega)
  have hk15 := hk14.trans hk5
  have hs15 := hk15.size
  clear hc4 hk14 hk5 ho4 HWL
  go_wp2_with fail
  refine (once_any w5 w.heap.size A n c _ 12 hc5 (by omega) (by omega) hn).mono ?_
  rintro e w6 ⟨b, rfl, hc6, hk6⟩
  have ho6 := Kp.own ho5 hk6 (by omega)
  have hD6 := (hD5.kp hk6 (by omega)).base (base' := w1.heap.size) (by omega)
  have hk16 := hk15.trans hk6
  have hs16 := hk16.size
  clear hc5 hk15 hk6 ho5 hD5
  cases b with
  | false =>
    have HB6 := Lib.hid (Kp.below hb1 hk16 (Nat.le_refl _) hs1)
    have HO6 := Lib.hid (own_base (base' := w.heap.size) ho6 hs1)
    have HD6 := Lib.hid (hD6.base (base' := w.heap.size) hs1)
    clear hc6 hk16 ho6 hD6
    go_wp2
    go_ret2
    exact ⟨g, cap, l, g5, cap5, m, ls, by rw [hL]; rfl, by omega, by omega, by omega, by rw [hL]; exact HO6.out, HD6.out, HB6.out⟩
  | true =>
    go_wp2_with fail
    refine (badLevel_any w6 w.heap.size A n c _ hc6 (by omega) hn).mono ?_
    rintro e w7 ⟨g7, c7, l7, rfl, h71, h72, ho7, hc7, hk7⟩
    have hoX := Kp.own ho6 hk7 (by omega)
    have hk17 := hk16.trans hk7
    have hs17 := hk17.size
    have hD7 := hD6.kp hk7 (by omega)
    have ho7' := own_base (base' := w1.heap.size) ho7 hs16
    obtain ⟨hl, vals, hv2, hv3⟩ := hD7
    obtain ⟨L7, hL7⟩ : ∃ L7, l7.length = L7 := ⟨_, rfl⟩
    rw [hL7] at h71 h72 ⊢
    obtain ⟨cs5, hblk5⟩ := own_blk hv2 g5 rfl
    have hneX := own_apart hoX hblk5 (by decide)
    clear hc6 hc7 hk16 hk7 ho6 ho7 hD6
    go_wp2_with (at_builtin; refine wpList_append_own _ rfl (.tmp 21) (.tmp 25) 38 rfl w1.heap.size 43 i0 (.agg #[.slice none 0 0]) 1 24 Tryd.underlying38 hi hz0 hz1 hz2 rfl (by decide) (.slice (some ⟨g5, 0, none⟩) m cap5) m vals rfl (hv2.alloc _) ⟨w7.heap.size, 0, none⟩ 1 1 [.slice (some ⟨g7, 0, none⟩) L7 c7] rfl rfl (cell_one_new _ _ _) (fun u hu => by simp at hu; subst hu; rfl) (by unfold maxLen; omega) (by omega) (by simp; omega) ?_; intro v' w8 hown' hgrow hnil)
    obtain ⟨g8, cap8, rfl⟩ : ∃ g' cap', v' = .slice (some ⟨g', 0, none⟩) (m + 1) cap' := by
      rcases hown'.2 with ⟨h0, _⟩ | ⟨g', cap', _, h0, _⟩
      · have := (hnil.1 h0).1
        cases this
      · exact ⟨g', cap', h0⟩
    have HD : Hid (LvlD w8 w.heap.size g8 (m + 1) cap8 (ls ++ [l7])) := by
      rw [← hL7] at hown'
      refine LvlD.base (base := w1.heap.size) (lvlD_push hl hown' (hv2.alloc _) (fun i hi => ?_) (ho7'.alloc _) (by omega) hgrow) hs1
      obtain ⟨gi, ci, q1, q2, q3⟩ := hv3 i hi
      exact ⟨gi, ci, q1, q2.alloc _, q3⟩
    have HO8 := Lib.hid (own_base (base' := w.heap.size) ((hoX.alloc _).kept hgrow (.inr (fun he => hneX he))) hs1)
    have HB8 := Lib.hid (Kp.below hb1 ((hk17.alloc _).more hgrow (fun k h => (hv2.lt k h).1)) (Nat.le_refl _) hs1)
    clear hown' hgrow hnil hv2 hv3 hk17 ho7' hoX hblk5 hneX
    go_wp2
    go_ret2
    exact ⟨g, cap, l, g8, cap8, m + 1, ls ++ [l7], by rw [hL]; rfl, by omega, by omega, by omega, by rw [hL]; exact HO8.out, HD.out, HB8.out⟩
end Go.Proofs.YtkpelkbkemohlaaDoor
