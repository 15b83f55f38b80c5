/- An atom and a list of atoms under a table of longest ways: atomLe of the program, AtomUnder of the program. -/
import Derived.Test.YtmmhcpigcdlnmaaUnSgn
import Derived.Test.YtmmhcpigcdlnmaaRLe

namespace Go.Proofs.Ytmmhcpigcdlnmaa
open Go.RowKit
open Cs (Cn Tb)

namespace Un
theorem leB_at {T : Tb} {p x q y : Int} {u v : Nat} (hu : p + 1 = u) (hv : q + 1 = v) : leB T (p, x) (q, y) = (decide (0 ≤ T u v) && decide (x ≤ T u v + y)) := by
  unfold leB
  show (decide (0 ≤ T (Cs.node p) (Cs.node q)) && decide (x ≤ T (Cs.node p) (Cs.node q) + y)) = _
  rw [node_of' hu, node_of' hv]
theorem atB_not {T : Tb} {x : Nm.At} {n : List Nm.At} (h : ∀ j, j < n.length → leB T x (n.getD j (0, 0)) = false) : atB T x n = false := atB_none h
end Un

set_option maxRecDepth 100000 in
set_option maxHeartbeats 1600000 in
theorem atomLe_any (w : World) (B : Nat) (T : Tb) (p x : Int) (A : Option Addr) (n c : Nat) (l : List (Int × Int)) (hB : B ≤ w.heap.size) (hl : TokR w B A n l) (hn : (n : Int) ≤ 140737488355328) (hok : Nm.AllOk l) (hp1 : -1 ≤ p) (hp2 : p < 5) (hT : ∀ i j, -1 ≤ T i j ∧ T i j ≤ 1000) :
    Calls Try.prog 83 #[tabV T, .agg #[.int .i64 p, .int .i64 x], .slice A n c] w fun e w' => e = .returned (.bool (Un.atB T (p, x) l)) ∧ Below w.heap.size w w' := by
  obtain ⟨W0, hW0⟩ : ∃ W, (w.alloc (.cells (tabA T) 70)).alloc (.cells #[.int .i64 p, .int .i64 x] 57) = W := ⟨_, rfl⟩
  have HB0 : Hid (Below w.heap.size w W0) := by show Below _ _ _; rw [← hW0]; exact ((Below.refl _ _).alloc (Nat.le_refl _) _).alloc (by simp) _
  have HC0 : Hid (Blk W0 w.heap.size 70 (tabA T)) := by
    show Blk _ _ _ _
    rw [← hW0]
    exact Blk.below (Blk.made w _ _) ((Below.refl _ _).alloc (Nat.le_refl _) _) (by simp)
  have HK0 : Hid (Blk W0 (w.heap.size + 1) 57 #[.int .i64 p, .int .i64 x]) := by
    show Blk _ _ _ _
    have h1 : Blk ((w.alloc (.cells (tabA T) 70)).alloc (.cells #[.int .i64 p, .int .i64 x] 57)) (w.alloc (.cells (tabA T) 70)).heap.size 57 #[.int .i64 p, .int .i64 x] := Blk.made _ _ _
    rw [show (w.alloc (.cells (tabA T) 70)).heap.size = w.heap.size + 1 by simp] at h1
    rw [← hW0]
    exact h1
  obtain ⟨u, hu⟩ : ∃ u : Nat, p + 1 = u := ⟨(p + 1).toNat, by omega⟩
  have hu6 : u < 6 := by omega
  have HU := Lib.hid hu
  have HOK := Lib.hid hok
  have HTB := Lib.hid hT
  clear hu hok hT
  go_enter Try.func83, Try.ntmps83
  go_wp2
  clear hW0
  go_loopw [12] (fun i wr => ∃ k : Nat, k ≤ n ∧ i = .int .i64 k ∧ Hid (∀ j, j < k → Un.leB T (p, x) (l.getD j (0, 0)) = false) ∧ Hid (Below w.heap.size w wr) ∧ Hid (Blk wr w.heap.size 70 (tabA T)) ∧ Hid (Blk wr (w.heap.size + 1) 57 #[.int .i64 p, .int .i64 x])) (fun i _ => n - (intOf i).toNat)
  case atStart => exact ⟨0, Nat.zero_le _, rfl, (fun j hj => absurd hj (by omega)), HB0.out, HC0.out, HK0.out⟩
  case round =>
    clear HB0 HC0 HK0
    obtain ⟨k, hk, rfl, HA, HB, HC, HK⟩ := hrel
    by_cases hlt : k < n
    · have hki : (k : Int) < (n : Int) := by omega
      obtain ⟨b, off, rfl, hb, hc⟩ := hl.2 (by omega)
      obtain ⟨c1, c2⟩ := hc k hlt
      have HL := Lib.hid hl.1
      have hat := (Nm.atOk_iff _).1 (HOK.out k (by rw [hl.1]; exact hlt))
      obtain ⟨t, ht⟩ : ∃ t, l.getD k (0, 0) = t := ⟨_, rfl⟩
      rw [ht] at c1 c2 hat
      obtain ⟨q, y⟩ := t
      simp only at hat
      obtain ⟨a1, a2, a3, a4⟩ := hat
      have HT := Lib.hid ht
      have k1 := (HB.out.cell (p := ⟨b, off + k * 2, none⟩) (by show b < _; omega)).trans c1
      have k2 := (HB.out.cell (p := ⟨b, off + k * 2 + 1, none⟩) (by show b < _; omega)).trans c2
      obtain ⟨v, hv⟩ : ∃ v : Nat, q + 1 = v := ⟨(q + 1).toNat, by omega⟩
      have hv6 : v < 6 := by omega
      obtain ⟨W1, hW1⟩ : ∃ W, wr.alloc (.cells #[.int .i64 q, .int .i64 y] 57) = W := ⟨_, rfl⟩
      have ha1 : Below wr.heap.size wr W1 := by rw [← hW1]; exact (Below.refl _ _).alloc (Nat.le_refl _) _
      have HC1 := Lib.hid (Blk.below HC.out ha1 HC.out.lt)
      have HK1 := Lib.hid (Blk.below HK.out ha1 HK.out.lt)
      have HB1 := Lib.hid (HB.out.trans (ha1.mono HB.out.size))
      have HY1 : Hid (Blk W1 wr.heap.size 57 #[.int .i64 q, .int .i64 y]) := by show Blk _ _ _ _; rw [← hW1]; exact Blk.made _ _ _
      have c0 : Blk W1 w.heap.size 70 (tabA T) := HC1.out
      have z0 : W1.cell? ⟨w.heap.size + 1, 0, none⟩ = some (.int .i64 p) := HK1.out.cell 0
      have y0 : W1.cell? ⟨wr.heap.size, 0, none⟩ = some (.int .i64 q) := HY1.out.cell 0
      obtain ⟨f, hf⟩ : ∃ f, T u v = f := ⟨_, rfl⟩
      have hfb := HTB.out u v
      rw [hf] at hfb
      have HLE : Hid (Un.leB T (p, x) (q, y) = (decide (0 ≤ f) && decide (x ≤ f + y))) := by show _ = _; rw [Un.leB_at HU.out hv, hf]
      have HF := Lib.hid hf
      have HV := Lib.hid hv
      clear c1 c2 hc ht hv hf ha1
      go_wp2_with (refine wpList_load_row rfl 70 _ rfl w.heap.size rfl 70 (tabA T) (0, 0) _ c0 Try.underlying70 rfl (size_tab T) ?_)
      refine (far_any W1 T p q u v HU.out hu6 HV.out hv6).mono ?_
      rintro e w2 ⟨rfl, hb2⟩
      rw [HF.out]
      have HB2 := Lib.hid (HB1.out.trans (hb2.mono HB1.out.size))
      have HC2 := Lib.hid (Blk.below HC1.out hb2 HC1.out.lt)
      have HK2 := Lib.hid (Blk.below HK1.out hb2 HK1.out.lt)
      have HY2 := Lib.hid (Blk.below HY1.out hb2 HY1.out.lt)
      have z1 : w2.cell? ⟨w.heap.size + 1, 1, none⟩ = some (.int .i64 x) := HK2.out.cell 1
      have y1 : w2.cell? ⟨wr.heap.size, 1, none⟩ = some (.int .i64 y) := HY2.out.cell 1
      have yes_of : 0 ≤ f → x ≤ f + y → Hid (Un.atB T (p, x) l = true) := fun h1 h2 => Un.atB_some (k := k) (by rw [HL.out]; exact hlt) (by rw [HT.out, HLE.out, decide_eq_true h1, decide_eq_true h2]; rfl)
      have no_of : ¬ (0 ≤ f ∧ x ≤ f + y) → Hid (∀ j, j < k + 1 → Un.leB T (p, x) (l.getD j (0, 0)) = false) := by
        intro h j hj
        by_cases e : j = k
        · subst e
          rw [HT.out, HLE.out, Bool.and_eq_false_iff]
          by_cases h1 : 0 ≤ f
          · exact .inr (decide_eq_false fun h2 => h ⟨h1, h2⟩)
          · exact .inl (decide_eq_false h1)
        · exact HA.out j (by omega)
      clear hb2 c0 z0 y0 k1 k2 hl hW1
      by_cases h1 : f = -1
      · have HA2 := no_of (fun h => by omega)
        subst h1
        clear yes_of no_of hfb
        go_wp2
        go_roundw
        case rel => exact ⟨k + 1, by omega, by go_num, HA2.out, HB2.out, HC2.out, HK2.out⟩
        case measure => simp [intOf]; omega
      · have df : (f != -1) = true := by simpa using h1
        have hf0 : 0 ≤ f := by omega
        by_cases h2 : x ≤ f + y
        · have HR := yes_of hf0 h2
          clear yes_of no_of h1
          go_wp2
          go_ret
          exact ⟨by rw [HR.out]; rfl, HB2.out⟩
        · have dx : decide (x ≤ f + y) = false := decide_eq_false h2
          have HA2 := no_of (fun h => h2 h.2)
          clear yes_of no_of h1 h2
          go_wp2
          go_roundw
          case rel => exact ⟨k + 1, by omega, by go_num, HA2.out, HB2.out, HC2.out, HK2.out⟩
          case measure => simp [intOf]; omega
    · have HR : Hid (Un.atB T (p, x) l = false) := Un.atB_not (fun j hj => HA.out j (by have := hl.1; omega))
      clear hl
      have hki : ¬ (k : Int) < (n : Int) := by omega
      go_wp2
      go_ret
      exact ⟨by rw [HR.out]; rfl, HB.out⟩
end Go.Proofs.Ytmmhcpigcdlnmaa
