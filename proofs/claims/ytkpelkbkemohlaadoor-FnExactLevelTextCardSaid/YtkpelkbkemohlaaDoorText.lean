/- LevelText of the program. -/
import Derived.Test.YtkpelkbkemohlaaDoorText0
namespace Go.Proofs.YtkpelkbkemohlaaDoor
open Go.RowKit

set_option maxRecDepth 100000 in
set_option maxHeartbeats 1600000 in
theorem implText_any (w : World) (B : Nat) (A : Option Addr) (n c : Nat) (l : List (Int × Int)) (T : TypeId) (pv : Value) (h0 : 0 < B) (hB : B ≤ w.heap.size)
    (hl : TokR w B A n l) (hn : n ≤ 1048576) (hE : ErrAt w T pv) :
    Calls Tryd.prog 53 #[.slice A n c] w fun e w' => e = .returned (.string (textR l)) ∧ Below w.heap.size w w' := by
  obtain ⟨i0, hi, hz0, hz1, hz2⟩ := info_parts info_string
  cases hok : Lv.levelOk l with
  | false =>
    have HO := Lib.hid hok
    have HP : Hid (textR l = ⟨#[]⟩) := by show _ = _; simp [textR, hok]
    clear hok
    go_enter Tryd.func53, Tryd.ntmps53
    go_wp2_with fail
    refine (levelOk_any w B A n c l T pv h0 hB hl (by omega) hE).mono ?_
    rintro e w1 ⟨rfl, hb1⟩
    rw [HO.out]
    go_wp2
    go_ret
    exact ⟨by rw [HP.out]; rfl, hb1⟩
  | true =>
    have HO := Lib.hid hok
    have HP : Hid (textR l = tx l) := by show _ = _; simp [textR, hok]
    obtain ⟨hn1, hn24⟩ : 1 ≤ n ∧ n ≤ 24 := by have := hl.1; simp [Lv.levelOk] at hok; omega
    have hll := hl.1
    clear hok
    go_enter Tryd.func53, Tryd.ntmps53
    go_wp2_with fail
    refine (levelOk_any w B A n c l T pv h0 hB hl (by omega) hE).mono ?_
    rintro e w1 ⟨rfl, hb1⟩
    rw [HO.out]
    go_wp2
    go_loopw [3, 11] (fun v i wr => ∃ (k : Nat) (A' : Option Addr) (c' : Nat), k ≤ n ∧ i = .int .i64 k ∧ v = .slice A' k c' ∧ wr.ownsRow w.heap.size 9 1 (.slice A' k c') k (((l.take k).map word).map Value.string) ∧ Below w.heap.size w wr) (fun _ i _ => n - (intOf i).toNat)
    case atStart => exact ⟨0, none, 0, Nat.zero_le _, rfl, rfl, World.ownsRow_nil _ _ _ _, hb1⟩
    case round =>
      obtain ⟨k, A', c', hk, rfl, rfl, hown, hbel⟩ := hrel
      have hszr := hbel.size
      by_cases hlt : k < n
      · obtain ⟨b, off, rfl, hb, hc⟩ := hl.2 (by omega)
        obtain ⟨c1, c3⟩ := hc k hlt
        have HTW := Lib.hid (take_words l k (by omega))
        have htk := ok_tk' HO.out (k := k) (by omega)
        obtain ⟨t, ht⟩ : ∃ t, l.getD k (0, 0) = t := ⟨_, rfl⟩
        rw [ht] at c1 c3 htk HTW
        obtain ⟨op, N⟩ := t
        have k1 := (hbel.cell (p := ⟨b, off + k * 2, none⟩) (by show b < _; omega)).trans c1
        have k2 := (hbel.cell (p := ⟨b, off + k * 2 + 1, none⟩) (by show b < _; omega)).trans c3
        have hba := hbel.alloc hszr (.cells #[.int .i64 op, .int .i64 N] 80)
        have hoa := hown.alloc (.cells #[.int .i64 op, .int .i64 N] 80)
        have HL := Lib.hid hl
        generalize ((l.take k).map word) = xs at hown hoa HTW
        clear c1 c3 hc ht hl
        go_wp2_with fail
        refine (tokText_any _ op N htk).mono ?_
        rintro e w2 ⟨rfl, hb2⟩
        have hB2 := hba.trans (hb2.mono (by simp; omega))
        have hO2 := own_below' hoa hb2
        have hz3 := hB2.size
        generalize word (op, N) = W at HTW ⊢
        clear hba hoa hb2 hown hbel
        go_wp2_with (at_builtin; refine wpList_append_own _ rfl (.tmp 15) (.tmp 18) 96 rfl w.heap.size 9 i0 (.string ⟨#[]⟩) 1 16 Tryd.underlying96 hi hz0 hz1 hz2 rfl (by decide) (.slice A' k c') k (xs.map Value.string) rfl (hO2.alloc _) ⟨w2.heap.size, 0, none⟩ 1 1 [.string W] rfl rfl (cell_one_new _ _ _) (fun u hu => by simp at hu; subst hu; rfl) (by unfold maxLen; omega) (by omega) (by simp; omega) ?_; intro v' w3 hown' hgrow _)
        obtain ⟨g', cap', rfl⟩ : ∃ g' cap', v' = .slice (some ⟨g', 0, none⟩) (k + 1) cap' := by
          rcases hown'.2 with ⟨_, h⟩ | ⟨g', cap', _, h, _⟩
          · omega
          · exact ⟨g', cap', h⟩
        have HB3 : Hid (Below w.heap.size w w3) := (hB2.alloc hz3 _).grown hgrow (by simp; omega) (fun k h => (hO2.lt k h).1)
        have HW : Hid (w3.ownsRow w.heap.size 9 1 (.slice (some ⟨g', 0, none⟩) (k + 1) cap') (k + 1) (((l.take (k + 1)).map word).map Value.string)) := by
          show World.ownsRow _ _ _ _ _ _ _
          rw [HTW.out, List.map_append]
          exact hown'
        clear hown' hgrow hO2 hB2
        go_wp2
        go_roundw
        case rel => exact ⟨k + 1, some ⟨g', 0, none⟩, cap', by omega, by go_num, rfl, HW.out, HB3.out⟩
        case measure => simp [intOf]; omega
      · obtain rfl : k = n := by omega
        rw [List.take_of_length_le (show l.length ≤ k by omega)] at hown
        rcases hown.2 with ⟨_, h⟩ | ⟨g, cap, cur, hv, hbase, hblk, hcap, hmax, hsz, htake⟩
        · omega
        · injection hv with hv1 hv2 hv3
          subst hv1 hv3
          have hJ := join_words l
          have hlk : (l.map word).length = k := by rw [List.length_map]; exact hll
          have hJo := (Tryd.strings_Join g 0 c' (l.map word) ⟨#[32]⟩ wr (fun j x hj => by
              have hx : ((l.map word).map Value.string)[j]? = some (.string x) := by rw [List.getElem?_map, hj]; rfl
              have := hown.cells (g := g) rfl j _ hx
              rw [own_adds] at this
              rw [Nat.zero_add]; exact this) (hown.lt g rfl).2 (by omega) (by omega) (by rw [List.map_map]; refine Nat.le_trans hJ ?_; omega))
          have HX : Hid ((⟨(Lib.join ((l.map word).map (·.data.toList)) (⟨#[32]⟩ : ByteArray).data.toList).toArray⟩ : ByteArray) = tx l) := by show _ = _; rw [List.map_map]; rfl
          rw [hlk, HX.out] at hJo
          have HJ := Lib.hid hJo
          clear hown hblk htake hsz hJ hJo hlk
          go_wp2_with fail
          refine HJ.out.mono ?_
          rintro e w4 ⟨rfl, hb4⟩
          have HB4 := Lib.hid (hbel.trans (hb4.mono hszr))
          go_wp2
          go_ret
          exact ⟨by rw [HP.out]; rfl, HB4.out⟩
end Go.Proofs.YtkpelkbkemohlaaDoor
