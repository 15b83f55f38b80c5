/- ConsLeast of the reference model. -/
import Derived.Test.YtmmhcpigcdlnmaaLeast

namespace Go.Proofs.Ytmmhcpigcdlnmaa
open Go.RowKit
open Cs (Cn Tb)

theorem leastL_cell (T : Tb) {j : Nat} {u : Value} (h : ((leastL T).map (Value.int .i64))[j]? = some u) : j < 5 ∧ u = .int .i64 (T 0 (j + 1)) := by
  have hj : j < 5 := by
    have := (List.getElem?_eq_some_iff.1 h).1
    simpa [leastL] using this
  refine ⟨hj, ?_⟩
  simp [leastL, hj] at h
  exact h.symm
set_option maxRecDepth 100000 in
set_option maxHeartbeats 1600000 in
theorem specConsLeast_any (w : World) (B : Nat) (A : Option Addr) (n c : Nat) (l : List Cn) (hB : B ≤ w.heap.size) (hl : ConR w B A n l) (hn : (n : Int) ≤ 140737488355328) :
    Calls Try.prog 12 #[.slice A n c] w (ResJ w (leastO l)) := by
  obtain ⟨i0, hi, hz0, hz1, hz2⟩ := info_parts info_int
  have HL := Lib.hid hl
  clear hl
  go_enter Try.func12, Try.ntmps12
  go_wp2_with fail
  refine (specConsSat_any w B A n c l hB HL.out hn).mono ?_
  rintro e w1 ⟨rfl, hb1⟩
  have HB1 := Lib.hid hb1
  have hs1 := hb1.size
  clear hb1
  cases h1 : satR l with
  | false =>
    have HF := Lib.hid (leastO_no h1)
    clear h1
    go_wp2
    go_ret2
    rw [HF.out]
    exact resJ_none HB1.out
  | true =>
    have H1 := Lib.hid h1
    have HF := Lib.hid (leastO_yes h1)
    clear h1
    go_wp2_with fail
    refine (l05Paths_sat w1 B A n c l (Nat.le_trans hB hs1) (HL.out.below (HB1.out.mono hB)) H1.out).mono ?_
    rintro e w2 ⟨hb2, g, cap, rw', cp, rfl, ht⟩
    have HB2 := Lib.hid (HB1.out.trans (hb2.mono hs1))
    have q0 := ht.head (i := 0) (by omega)
    have hrow := ht.row 0 (by omega)
    have hcp : 6 ≤ cp 0 := by
      rcases hrow.2 with ⟨h0, _⟩ | ⟨g', cap', cur, hv, _, _, hle, _⟩
      · cases h0
      · injection hv with _ _ e3
        rw [e3]; exact hle
    have HC : Hid (∀ j, j < 5 → w2.cell? ⟨rw' 0, 1 + j, none⟩ = some (.int .i64 (Cs.tab l 0 (j + 1)))) := fun j hj => by
      have := (ht.spot (i := 0) (j := j + 1) (by omega) (by omega)).1
      rw [show 1 + j = j + 1 by omega]
      exact this
    have hlt0 := (ht.base (i := 0) (by omega)).2
    obtain ⟨r0, hr0⟩ : ∃ r0, rw' 0 = r0 := ⟨_, rfl⟩
    obtain ⟨p0, hp0⟩ : ∃ p0, cp 0 = p0 := ⟨_, rfl⟩
    rw [hr0] at q0 HC hlt0
    rw [hp0] at q0 hcp
    have hs2 := HB2.out.size
    clear hb2 ht hrow hr0 hp0
    obtain ⟨W3, hW3⟩ : ∃ W, w2.alloc (.cells #[] 3) = W := ⟨_, rfl⟩
    have ho3 : OwnI W3 w2.heap.size (some ⟨w2.heap.size, 0, none⟩) 0 0 [] := by rw [← hW3]; exact World.ownsRow_made w2 #[] 0 (Nat.le_refl _) (by simp [maxLen]) (by simp)
    have hb3 : Below w2.heap.size w2 W3 := by rw [← hW3]; exact (Below.refl _ _).alloc (Nat.le_refl _) _
    have q1 : W3.cell? ⟨g, 0, none⟩ = some (.slice (some ⟨r0, 0, none⟩) 6 p0) := (hb3.cell (World.block_lt_of_cell? w2 _ q0)).trans q0
    have HC3 : Hid (∀ j u, ((leastL (Cs.tab l)).map (Value.int .i64))[j]? = some u → W3.cell? ((⟨r0, 1, none⟩ : Addr).add j) = some u) := fun j u hu => by
      obtain ⟨hj, rfl⟩ := leastL_cell (Cs.tab l) hu
      have hadd : (⟨r0, 1, none⟩ : Addr).add j = ⟨r0, 1 + j, none⟩ := by
        unfold Addr.add
        by_cases h : j = 0
        · subst h; rfl
        · rw [if_neg h]
      rw [hadd, hb3.cell (by exact hlt0), HC.out j hj]
    have hs3 : W3.heap.size = w2.heap.size + 1 := by rw [← hW3]; simp
    have HB3 := Lib.hid (HB2.out.trans (hb3.mono hs2))
    clear hb3 q0
    have hones : ∀ u ∈ (leastL (Cs.tab l)).map (Value.int .i64), u.oneCell' = true := fun u hu => by
      simp only [List.mem_map] at hu
      obtain ⟨x, _, rfl⟩ := hu
      rfl
    go_wp2_with (at_builtin; refine wpList_append_own _ rfl (.tmp 14) (.tmp 18) 26 rfl w2.heap.size 3 i0 (.int .i64 0) 1 8 Try.underlying26 hi hz0 hz1 hz2 rfl (by decide) (.slice (some ⟨w2.heap.size, 0, none⟩) 0 0) 0 [] rfl ho3 ⟨r0, 1, none⟩ 5 (p0 - 1) ((leastL (Cs.tab l)).map (Value.int .i64)) rfl rfl HC3.out hones (by unfold maxLen; omega) (by omega) (by omega) ?_; intro v' w4 hown' hgrow hnil)
    obtain ⟨g2, c2, rfl⟩ : ∃ g' c', v' = .slice (some ⟨g', 0, none⟩) (0 + 5) c' := by
      rcases hown'.2 with ⟨h0, _⟩ | ⟨g', c', _, h0, _⟩
      · have := (hnil.1 h0).1
        cases this
      · exact ⟨g', c', h0⟩
    have HB4 : Hid (Below w.heap.size w w4) := HB3.out.grown hgrow (by omega) (fun x h => by have := (ho3.lt x h).1; omega)
    have HO4 : Hid (OwnI w4 w.heap.size (some ⟨g2, 0, none⟩) 5 c2 (Cs.leastEnv l)) := by
      have := own_base hown' hs2
      simp only [Nat.zero_add, List.nil_append] at this
      exact this
    clear hown' hgrow hnil ho3
    go_wp2
    go_ret2
    rw [HF.out]
    exact resJ_some (Cs.leastEnv_len l) HO4.out HB4.out
end Go.Proofs.Ytmmhcpigcdlnmaa
