/- l05Skip of the reference model: the constraints that are not gone. -/
import Derived.Test.YtmmhcpigcdlnmaaCoImp
import Derived.Test.YtmmhcpigcdlnmaaLeast
import Derived.Deep.AppendLies

namespace Go.Proofs.Ytmmhcpigcdlnmaa
open Go.RowKit
open Cs (Cn Tb)

/-- the cells of a row of bools -/
def goneA (g : Nat → Bool) (n : Nat) : Array Value := ((List.range n).map fun i => Value.bool (g i)).toArray
theorem goneA_size (g : Nat → Bool) (n : Nat) : (goneA g n).size = n := by simp [goneA]
theorem goneA_get (g : Nat → Bool) {n i : Nat} (hi : i < n) : (goneA g n)[i]? = some (.bool (g i)) := by simp [goneA, hi]
theorem goneA_set (g : Nat → Bool) (n i : Nat) (b : Bool) : (goneA g n).setIfInBounds i (.bool b) = goneA (Cs.mark g i b) n := by
  apply Array.ext_getElem?
  intro k
  by_cases hk : k < n
  · rw [Array.getElem?_setIfInBounds, goneA_get _ hk, goneA_get _ hk, goneA_size]
    unfold Cs.mark
    by_cases e : i = k
    · subst e
      rw [if_pos rfl, if_pos (by omega), if_pos rfl]
    · rw [if_neg e, if_neg (fun h => e h.symm)]
  · rw [Array.getElem?_eq_none (by rw [Array.size_setIfInBounds, goneA_size]; omega), Array.getElem?_eq_none (by rw [goneA_size]; omega)]
theorem con_new (w : World) (U R V : Int) : ∀ j u, (conCells [(U, R, V)])[j]? = some u → (w.alloc (.cells #[.int .i64 U, .int .i64 R, .int .i64 V] 34)).cell? ((⟨w.heap.size, 0, none⟩ : Addr).add j) = some u :=
  World.news_of_block (cs := #[.int .i64 U, .int .i64 R, .int .i64 V]) (t := 34) (fr := (0, 0)) (heap_alloc_new w _)
theorem pickC_snoc (l : List Cn) (is : List Nat) (k : Nat) : Cs.pickC l (is ++ [k]) = Cs.pickC l is ++ [l.getD k (0, 0, 0)] := by simp [Cs.pickC]
theorem pickC_len (l : List Cn) (is : List Nat) : (Cs.pickC l is).length = is.length := by simp [Cs.pickC]
theorem skip_found (l : List Cn) (g : Nat → Bool) : Cs.skip l g = Cs.pickC l (Cs.foundI g l.length) := Cs.skip_eq l g

set_option maxRecDepth 100000 in
set_option maxHeartbeats 1600000 in
theorem l05Skip_any (w : World) (B : Nat) (A : Option Addr) (n c : Nat) (l : List Cn) (gb : Nat) (g : Nat → Bool) (hB : B ≤ w.heap.size) (hl : ConR w B A n l) (hg : Blk w gb 4 (goneA g n)) (hn : n ≤ 1000) :
    Calls Try.prog 60 #[.slice A n c, .slice (some ⟨gb, 0, none⟩) n n] w fun e w' => ∃ g2 c2, e = .returned (.slice (some ⟨g2, 0, none⟩) (Cs.skip l g).length c2) ∧ OwnC w' w.heap.size (some ⟨g2, 0, none⟩) (Cs.skip l g).length c2 (Cs.skip l g) ∧ Below w.heap.size w w' := by
  obtain ⟨i0, hi, hz0, hz1, hz2⟩ := info_parts info_con
  have HS0 : Hid (OwnC (w.alloc (.cells #[] 34)) w.heap.size (some ⟨w.heap.size, 0, none⟩) (Cs.pickC l (Cs.foundI g 0)).length 0 (Cs.pickC l (Cs.foundI g 0))) := World.ownsRow_made w #[] 0 (Nat.le_refl _) (by simp [maxLen]) (by simp)
  have HB0 : Hid (Below w.heap.size w (w.alloc (.cells #[] 34))) := (Below.refl _ _).alloc (Nat.le_refl _) _
  have HL := Lib.hid hl
  have HG := Lib.hid hg
  clear hl hg
  go_enter Try.func60, Try.ntmps60
  go_wp2
  go_loopw [5, 6] (fun v i wr => ∃ (k m g2 c2 : Nat) (out : List Cn), k ≤ n ∧ i = .int .i64 k ∧ v = .slice (some ⟨g2, 0, none⟩) m c2 ∧ Hid (out.length = m) ∧ Hid (out = Cs.pickC l (Cs.foundI g k)) ∧ m ≤ k ∧ Hid (OwnC wr w.heap.size (some ⟨g2, 0, none⟩) m c2 out) ∧ Hid (Below w.heap.size w wr)) (fun _ i _ => n - (intOf i).toNat)
  case atStart => exact ⟨0, 0, w.heap.size, 0, [], by omega, rfl, rfl, rfl, rfl, by omega, HS0.out, HB0.out⟩
  case round =>
    clear HS0 HB0
    obtain ⟨k, m, g2, c2, out, hk, rfl, rfl, HM, HOUT, hmk, HO, HB⟩ := hrel
    have hszr := HB.out.size
    by_cases hlt : k < n
    · have hki : (k : Int) < (n : Int) := by omega
      have q1 : wr.cell? ⟨gb, k, none⟩ = some (.bool (g k)) := ((Blk.below HG.out HB.out HG.out.lt).cell k).trans (goneA_get g hlt)
      cases hgk : g k with
      | true =>
        rw [hgk] at q1
        have HOUT2 : Hid (out = Cs.pickC l (Cs.foundI g (k + 1))) := by show _ = _; rw [Cs.foundI_succ, if_pos hgk]; exact HOUT.out
        clear hgk
        go_wp2
        go_roundw
        case rel => exact ⟨k + 1, m, g2, c2, out, by omega, by go_num, rfl, HM.out, HOUT2.out, by omega, HO.out, HB.out⟩
        case measure => simp [intOf]; omega
      | false =>
        rw [hgk] at q1
        obtain ⟨b, off, hA, hb, hc⟩ := HL.out.2 (by omega)
        obtain ⟨x1, x2, x3⟩ := hc k hlt
        obtain ⟨t, ht⟩ : ∃ t, l.getD k (0, 0, 0) = t := ⟨_, rfl⟩
        rw [ht] at x1 x2 x3
        obtain ⟨U, R, V⟩ := t
        subst hA
        have k1 := (HB.out.cell (p := ⟨b, off + k * 3, none⟩) (by show b < _; omega)).trans x1
        have k2 := (HB.out.cell (p := ⟨b, off + k * 3 + 1, none⟩) (by show b < _; omega)).trans x2
        have k3 := (HB.out.cell (p := ⟨b, off + k * 3 + 2, none⟩) (by show b < _; omega)).trans x3
        have HOUT2 : Hid (out ++ [(U, R, V)] = Cs.pickC l (Cs.foundI g (k + 1))) := by show _ = _; rw [Cs.foundI_succ, if_neg (by rw [hgk]; decide), pickC_snoc, ← HOUT.out, ht]
        have hown := HO.out
        clear hgk hc ht x1 x2 x3
        go_wp2_with (at_builtin; refine wpList_append_own _ rfl (.tmp 19) (.tmp 24) 24 rfl w.heap.size 34 i0 (.agg #[.int .i64 0, .int .i64 0, .int .i64 0]) 3 24 Try.underlying24 hi hz0 hz1 hz2 rfl (by decide) (.slice (some ⟨g2, 0, none⟩) m c2) m (conCells out) rfl (hown.alloc _) ⟨wr.heap.size, 0, none⟩ 1 1 (conCells [(U, R, V)]) rfl rfl (con_new wr U R V) (conCells_one _) (by unfold maxLen; omega) (by omega) (by simp; omega) ?_; intro v' w3 hown' hgrow hnil)
        obtain ⟨g3, c3, rfl⟩ : ∃ g' c', v' = .slice (some ⟨g', 0, none⟩) (m + 1) c' := by
          rcases hown'.2 with ⟨h0, _⟩ | ⟨g', c', _, h0, _⟩
          · have := (hnil.1 h0).1
            cases this
          · exact ⟨g', c', h0⟩
        have HB3 : Hid (Below w.heap.size w w3) := (HB.out.alloc hszr _).grown hgrow (by simp; omega) (fun x h => (hown.lt x h).1)
        have HO3 : Hid (OwnC w3 w.heap.size (some ⟨g3, 0, none⟩) (m + 1) c3 (out ++ [(U, R, V)])) := by
          show OwnC _ _ _ _ _ _
          unfold OwnC
          rw [conCells_append]
          exact hown'
        have HM3 : Hid ((out ++ [(U, R, V)]).length = m + 1) := by show _ = _; rw [List.length_append, HM.out]; rfl
        clear hown hown' hgrow hnil
        go_wp2
        go_roundw
        case rel => exact ⟨k + 1, m + 1, g3, c3, out ++ [(U, R, V)], by omega, by go_num, rfl, HM3.out, HOUT2.out, by omega, HO3.out, HB3.out⟩
        case measure => simp [intOf]; omega
    · obtain rfl : k = n := by omega
      have hkk : ¬ (k : Int) < (k : Int) := by omega
      have HS : Hid (out = Cs.skip l g) := by show _ = _; rw [skip_found, HL.out.1]; exact HOUT.out
      go_wp2
      go_ret
      refine ⟨g2, c2, ?_, ?_, HB.out⟩
      · rw [← HS.out, HM.out]; rfl
      · rw [← HS.out, HM.out]; exact HO.out
end Go.Proofs.Ytmmhcpigcdlnmaa
