/- LevelRead of the program. -/
import Derived.Test.YtijiohdddfdjfaaDoorReadT
import Derived.Deep.AppendLies
namespace Go.Proofs.YtijiohdddfdjfaaDoor
open Go.RowKit

theorem newsT3 (X : World) (o : Obj) (p x : Int) : ∀ j u, [Value.int .i64 p, .int .i64 x][j]? = some u → ((X.alloc o).alloc (.cells #[.int .i64 p, .int .i64 x] 66)).cell? ((⟨X.heap.size + 1, 0, none⟩ : Addr).add j) = some u := by
  have h := World.news_of_block (w := (X.alloc o).alloc (.cells #[.int .i64 p, .int .i64 x] 66)) (cs := #[.int .i64 p, .int .i64 x]) (t := 66) (fr := (0, 0)) (heap_alloc_new (X.alloc o) _)
  rw [World.size_alloc] at h
  exact h
/-- the pieces that strings.SplitN gives -/
abbrev pcs (s : ByteArray) : List ByteArray := Lib.splitB ⟨#[32]⟩ 0 (min 25 (s.size + 1) - 1) s
theorem pcs_cut (s : ByteArray) : (pcs s).map (·.data.toList) = Rd.cutK (min 25 (s.size + 1) - 1) s.data.toList := by
  unfold pcs
  rw [Lib.splitB_data]
  exact Rd.splitK_cut _ _
theorem take_snoc {α : Type} (l : List α) (k : Nat) (x : α) (h : l[k]? = some x) : l.take (k + 1) = l.take k ++ [x] := by
  obtain ⟨hk, e⟩ := List.getElem?_eq_some_iff.1 h
  rw [List.take_succ_eq_append_getElem hk, e]

set_option maxRecDepth 100000 in
set_option maxHeartbeats 3200000 in
theorem implRead_any (w : World) (s : ByteArray) (T : TypeId) (pv : Value) (m : Int) (h0 : 0 < w.heap.size) (hs : s.size ≤ 1048576) (hm : w.cell? Tryd.maxLenAt = some (.int .i64 m)) (hE : ErrAt w T pv) :
    Calls Tryd.prog 34 #[.string s] w (ResP w (Rd.readR s)) := by
  obtain ⟨i0, hi, hz0, hz1, hz2⟩ := info_parts info_tok
  have HC := Lib.hid (pcs_cut s)
  have hL25 : (pcs s).length ≤ min 25 (s.size + 1) := by
    have := Lib.splitB_length_le ⟨#[32]⟩ 0 (min 25 (s.size + 1) - 1) s
    show (Lib.splitB ⟨#[32]⟩ 0 (min 25 (s.size + 1) - 1) s).length ≤ _
    omega
  have HSP := Lib.hid (Tryd.strings_SplitN s ⟨#[32]⟩ 25 m w (by omega) hm (by decide) (by omega) (by omega))
  change Hid (Calls Tryd.prog _ _ w fun e w' => e = .returned (.slice (some ⟨w.heap.size, 0, none⟩) (pcs s).length (min 25 (s.size + 1))) ∧ w' = w.alloc (.cells (Lib.cellsOf (pcs s) (min 25 (s.size + 1))) _)) at HSP
  obtain ⟨N, hN⟩ : ∃ N, min 25 (s.size + 1) = N := ⟨_, rfl⟩
  have hN25 : N ≤ 25 := by omega
  rw [hN] at HSP hL25 HC
  have HNN := Lib.hid hN
  generalize pcs s = P at HC hL25 HSP
  obtain ⟨L, hL⟩ : ∃ L, P.length = L := ⟨_, rfl⟩
  rw [hL] at hL25 HSP
  have HLL := Lib.hid hL
  have HBL : Hid (Blk (w.alloc (.cells (Lib.cellsOf P N) 9)) w.heap.size 9 (Lib.cellsOf P N)) := Blk.made _ _ _
  have HB0 : Hid (Below w.heap.size w (w.alloc (.cells (Lib.cellsOf P N) 9))) := (Below.refl _ _).alloc (Nat.le_refl _) _
  have HW1 : Hid ((w.alloc (.cells (Lib.cellsOf P N) 9)).heap.size = w.heap.size + 1) := by show _ = _; simp
  have HE := Lib.hid hE
  clear hm hE hN hL
  go_enter Tryd.func34, Tryd.ntmps34
  go_wp2_with fail
  refine HSP.out.mono ?_
  rintro e w1 ⟨rfl, hw1⟩
  rw [← hw1] at HBL HB0 HW1
  clear hw1 HSP
  have hw1 := HW1.out
  go_wp2
  go_loopw [5, 14] (fun v i wr => ∃ (k : Nat) (A' : Option Addr) (c' : Nat) (l : List (Int × Int)), k ≤ L ∧ i = .int .i64 k ∧ v = .slice A' k c' ∧ Hid (Rd.readL ((P.take k).map (·.data.toList)) = some l) ∧ OwnT wr w1.heap.size A' k c' l ∧ Below w1.heap.size w1 wr) (fun _ i _ => L - (intOf i).toNat)
  case atStart => exact ⟨0, none, 0, [], Nat.zero_le _, rfl, rfl, rfl, World.ownsRow_nil _ _ _ _, Below.refl _ _⟩
  case round =>
    obtain ⟨k, A', c', l, hk, rfl, rfl, HR, hown, hbel⟩ := hrel
    have hszr := hbel.size
    by_cases hlt : k < L
    · have hki : (k : Int) < (L : Int) := by omega
      obtain ⟨W, hW⟩ : ∃ W, P[k]? = some W := ⟨P[k]'(by rw [HLL.out]; exact hlt), List.getElem?_eq_getElem _⟩
      have hcell : wr.cell? ⟨w.heap.size, k, none⟩ = some (.string W) := by
        rw [(HBL.out.below hbel (by omega)).cell]
        unfold Lib.cellsOf
        rw [List.getElem?_toArray, List.getElem?_append_left (by rw [List.length_map, HLL.out]; exact hlt), List.getElem?_map, hW]
        rfl
      have HTS : Hid ((P.take (k + 1)).map (·.data.toList) = (P.take k).map (·.data.toList) ++ [W.data.toList]) := by show _ = _; rw [take_snoc P k W hW, List.map_append]; rfl
      have HMEM : Hid (W.data.toList ∈ P.map (·.data.toList)) := List.mem_map.2 ⟨W, List.mem_of_getElem? hW, rfl⟩
      clear hW
      go_wp2_with fail
      refine (tokRead_any wr W).mono ?_
      rintro e w2 ⟨rfl, hb2⟩
      have hB2 := hbel.trans (hb2.mono hszr)
      have hO2 := own_below' hown hb2
      have hs2 := hB2.size
      clear hcell hb2 hown hbel
      cases hu : Rd.unw W.data.toList with
      | none =>
        have HNO : Hid (Rd.readR s = none) := Rd.read_none (by rw [HNN.out, ← HC.out]; exact Rd.readL_none HMEM.out hu)
        have HBE : Hid (Below w.heap.size w (w2.alloc (.cells #[.int .i64 0, .int .i64 0] 66))) := (HB0.out.trans (hB2.mono (by omega))).alloc (by omega) _
        clear hu hB2 hO2
        unfold trV
        go_wp2
        go_ret2
        rw [HNO.out]
        exact resP_none HBE.out
      | some t =>
        obtain ⟨a, b⟩ := t
        have HR2 := Lib.hid (Rd.readL_snoc HR.out hu)
        have HLN := Lib.hid (OwnT.reads hO2).1
        clear hu HMEM
        unfold trV
        go_wp2_with (at_builtin; first
          | (refine wpList_append_own _ rfl (.tmp 25) (.tmp 27) 24 rfl w1.heap.size 66 i0 (.agg #[.int .i64 0, .int .i64 0]) 2 16 Tryd.underlying24 hi hz0 hz1 hz2 rfl (by decide) (.slice A' k c') k (tokCells l) rfl ((hO2.alloc _).alloc _) ⟨w2.heap.size + 1, 0, none⟩ 1 1 [.int .i64 a, .int .i64 b] rfl rfl (newsT3 _ _ _ _) (by intro v hv; simp at hv; rcases hv with rfl | rfl <;> rfl) (by unfold maxLen; omega) (by omega) (by simp; omega) ?_
             intro v' w4 hown' hgrow hnil))
        obtain ⟨g4, cap4, rfl⟩ : ∃ g' cap', v' = .slice (some ⟨g', 0, none⟩) (k + 1) cap' := by
          rcases hown'.2 with ⟨_, h⟩ | ⟨g', cap', _, h, _⟩
          · omega
          · exact ⟨g', cap', h⟩
        have HW4 : Hid (OwnT w4 w1.heap.size (some ⟨g4, 0, none⟩) (k + 1) cap4 (l ++ [(a, b)])) := by
          show OwnT _ _ _ _ _ _
          unfold OwnT
          rw [tokCells_append]
          exact hown'
        have HB4 : Hid (Below w1.heap.size w1 w4) := ((hB2.alloc hs2 _).alloc (by simp; omega) _).grown hgrow (by simp; omega) (fun k h => (hO2.lt k h).1)
        clear hown' hgrow hnil hO2 hB2
        go_wp2
        go_roundw
        case rel => exact ⟨k + 1, some ⟨g4, 0, none⟩, cap4, l ++ [(a, b)], by omega, by go_num, rfl, by rw [HTS.out]; exact HR2.out, HW4.out, HB4.out⟩
        case measure => simp [intOf]; omega
    · obtain rfl : k = L := by omega
      have HRR : Hid (Rd.readR s = ifR l) := Rd.read_some (by rw [HNN.out, ← HC.out]; have h := HR.out; rw [List.take_of_length_le (by rw [HLL.out]; exact Nat.le_refl _)] at h; exact h)
      have hbw := HB0.out.trans (hbel.mono (by omega))
      have HCK := Lib.hid (checked_any wr w1.heap.size A' k c' l T pv (by omega) (by omega) hown (HE.out.below hbw (by omega)))
      have hkk : ¬ (k : Int) < (k : Int) := by omega
      clear hown hbel
      go_wp2_with fail
      refine HCK.out.mono ?_
      rintro e w5 ⟨⟨A5, c5, rfl, ho5⟩, hb5⟩
      have HF : Hid (ResP w (Rd.readR s) (.returned (.tuple #[.slice A5 ((ifR l).getD []).length c5, .bool (ifR l).isSome])) w5) := by
        rw [HRR.out]
        exact ⟨A5, c5, rfl, own_base ho5 (by omega), hbw.trans (hb5.mono hbw.size)⟩
      clear ho5 hb5 hbw HCK
      go_wp2
      go_ret2
      exact HF.out
end Go.Proofs.YtijiohdddfdjfaaDoor
