/- The laws' marks upon slices of nodes. -/
/- The law FnExactArenaPut: the walk. -/
import Derived.Test.YtfmhmnpmdjpmeaaDoorRegInv
import Derived.Test.YtfmhmnpmdjpmeaaDoorApS
import Derived.Test.YtfmhmnpmdjpmeaaDoorNdKey

namespace Go.Proofs.YtfmhmnpmdjpmeaaDoor
open Go.RowKit

set_option maxHeartbeats 800000 in
theorem markNodeS_any (w : World) (base : Nat) (A : Option Addr) (n c : Nat) (xs : List Value) (hown : w.ownsRow base 72 4 (.slice A n c) n xs) (k : Nat) (hn : n ≤ 3000000) (hk : k ≤ 3000000) :
    Calls Tryd.prog 19 #[.slice A n c, .int .i64 k] w fun e w' => e = .returned (.int .i64 ((k + n * 4 : Nat) : Int)) ∧ MarkOut w base 72 4 (.slice A n c) n k w' := by
  by_cases h0 : n = 0
  · subst h0
    have HO := Lib.hid (own_empty hown k)
    clear hown
    go_enter Tryd.func19, Tryd.ntmps19
    go_wp2
    go_loop [1, 5] (fun m i => m = .int .i64 k ∧ i = .int .i64 0) (fun _ _ => 0)
    case atStart => exact ⟨rfl, rfl⟩
    case round =>
      obtain ⟨rfl, rfl⟩ := hrel
      go_wp2
      go_ret
      exact ⟨rfl, World.grownBy.refl _ _, rfl, HO.out⟩
  · rcases hown.2 with ⟨_, h⟩ | ⟨g, cap, cur, hv, hb, hgg, h1, h2, h3, h4⟩
    · omega
    · injection hv with e1 e2 e3
      subst e1; subst e3
      have hblk : Blk w g 72 cur := hgg
      have HS : Hid (Marking w g 72 (c * 4) k 0 w) := ⟨World.grownBy.refl _ _, rfl, cur, hblk, h3, by intro i hi; omega⟩
      have HW := Lib.hid hown
      clear hgg hblk h3 h4 hown
      go_enter Tryd.func19, Tryd.ntmps19
      go_wp2
      go_loopw [1, 5] (fun m i wr => ∃ j : Nat, j ≤ n ∧ i = .int .i64 j ∧ m = .int .i64 ((k + j * 4 : Nat) : Int) ∧ Marking w g 72 (c * 4) k (j * 4) wr) (fun _ i _ => n - (intOf i).toNat)
      case atStart => exact ⟨0, Nat.zero_le _, rfl, rfl, HS.out⟩
      case round =>
        obtain ⟨j, hj, rfl, rfl, hM⟩ := hrel
        by_cases hlt : j < n
        · have hM1 := marking_step hM (by omega)
          have hM2 := marking_step hM1 (by omega)
          have hM3 := marking_step hM2 (by omega)
          have HN := Lib.hid (marking_step hM3 (by omega))
          obtain ⟨_, _, cs, hblk, hs, _⟩ := hM
          have f1 := hblk.thawed (j * 4)
          have f2 := hblk.thawed (j * 4 + 1)
          have f3 := hblk.thawed (j * 4 + 2)
          have f4 := hblk.thawed (j * 4 + 3)
          obtain ⟨v1, d1⟩ : ∃ v1, wr.cell? ⟨g, j * 4, none⟩ = some v1 := ⟨_, (hblk.cell _).trans (Array.getElem?_eq_getElem (by omega))⟩
          obtain ⟨v2, d2⟩ : ∃ v2, wr.cell? ⟨g, j * 4 + 1, none⟩ = some v2 := ⟨_, (hblk.cell _).trans (Array.getElem?_eq_getElem (by omega))⟩
          obtain ⟨v3, d3⟩ : ∃ v3, wr.cell? ⟨g, j * 4 + 2, none⟩ = some v3 := ⟨_, (hblk.cell _).trans (Array.getElem?_eq_getElem (by omega))⟩
          obtain ⟨v4, d4⟩ : ∃ v4, wr.cell? ⟨g, j * 4 + 3, none⟩ = some v4 := ⟨_, (hblk.cell _).trans (Array.getElem?_eq_getElem (by omega))⟩
          clear hblk hs hM1 hM2 hM3
          go_wp2
          go_roundw
          case rel => exact ⟨j + 1, by omega, by go_num, by go_num, by
            have h := HN.out
            rw [show (j + 1) * 4 = j * 4 + 1 + 1 + 1 + 1 by omega]
            simpa [Nat.add_assoc, Int.add_assoc] using h⟩
          case measure => simp [intOf]; omega
        · obtain rfl : j = n := by omega
          have HM := Lib.hid hM
          clear hM
          go_wp2
          go_ret
          have hM := HM.out
          exact ⟨rfl, hM.1, hM.2.1, marked (size := 4) HW.out hM⟩

set_option maxHeartbeats 800000 in
theorem heldNodeS_any (w : World) (base : Nat) (A : Option Addr) (n c : Nat) (k : Nat) (hown : w.ownsRow base 72 4 (.slice A n c) n (marks k (n * 4))) (hn : n ≤ 3000000) (hk : k ≤ 3000000) :
    Calls Tryd.prog 21 #[.slice A n c, .int .i64 k] w fun e w' => e = .returned (.int .i64 ((k + n * 4 : Nat) : Int)) ∧ w = w' := by
  by_cases h0 : n = 0
  · subst h0
    clear hown
    go_enter Tryd.func21, Tryd.ntmps21
    go_wp2
    go_loop [1, 5] (fun m i => m = .int .i64 k ∧ i = .int .i64 0) (fun _ _ => 0)
    case atStart => exact ⟨rfl, rfl⟩
    case round =>
      obtain ⟨rfl, rfl⟩ := hrel
      go_wp2
      go_ret
      exact ⟨rfl, rfl⟩
  · rcases hown.2 with ⟨_, h⟩ | ⟨g, cap, cur, hv, hb, hgg, h1, h2, h3, h4⟩
    · omega
    · injection hv with e1 e2 e3
      subst e1; subst e3
      have HC : Hid (∀ j, j < n * 4 → w.cell? ⟨g, j, none⟩ = some (.int .i64 ((k + j : Nat) : Int))) := by
        intro j hj
        have := hown.cells (g := g) rfl j _ (marks_at k (n * 4) j (by omega))
        rw [own_adds] at this
        exact this
      clear hgg h3 h4 hown
      go_enter Tryd.func21, Tryd.ntmps21
      go_wp2
      go_loop [1, 5] (fun m i => ∃ j : Nat, j ≤ n ∧ i = .int .i64 j ∧ m = .int .i64 ((k + j * 4 : Nat) : Int)) (fun _ i => n - (intOf i).toNat)
      case atStart => exact ⟨0, Nat.zero_le _, rfl, rfl⟩
      case round =>
        obtain ⟨j, hj, rfl, rfl⟩ := hrel
        by_cases hlt : j < n
        · have d1 := HC.out (j * 4) (by omega)
          have d2 := HC.out (j * 4 + 1) (by omega)
          have d3 := HC.out (j * 4 + 2) (by omega)
          have d4 := HC.out (j * 4 + 3) (by omega)
          rw [show ((k + (j * 4 + 1) : Nat) : Int) = (k : Int) + (j : Int) * 4 + 1 by omega] at d2
          rw [show ((k + (j * 4 + 2) : Nat) : Int) = (k : Int) + (j : Int) * 4 + 2 by omega] at d3
          rw [show ((k + (j * 4 + 3) : Nat) : Int) = (k : Int) + (j : Int) * 4 + 3 by omega] at d4
          go_wp2
          go_round
          case rel => exact ⟨j + 1, by omega, by go_num, by go_num⟩
          case measure => simp [intOf]; omega
        · obtain rfl : j = n := by omega
          go_wp2
          go_ret
          exact ⟨rfl, rfl⟩
theorem NodOwn.mark {w w' : World} {g n base m k size : Nat} {e : TypeId} {v : Value} {l : List Nd} {lo hi : Nat} (h : NodOwn w g n l) (hm : MarkOut w base e size v m k w') (hv : InR v lo hi) (hd : g < lo ∨ hi ≤ g) : NodOwn w' g n l := by
  obtain ⟨hl, cs, hblk, rest⟩ := h
  refine ⟨hl, cs, ?_, rest⟩
  exact (hm.1.block g hblk.lt (fun he => by have := hv g he.symm; omega)).trans hblk
end Go.Proofs.YtfmhmnpmdjpmeaaDoor

namespace Go.Proofs.YtfmhmnpmdjpmeaaDoor
open Go.RowKit

theorem putNs_len {ns : List Nd} {l : List (Int × Int)} : (putNs ns l).length ≤ 200 := by
  unfold putNs
  split
  · rename_i h
    unfold putOk at h
    rw [Bool.and_eq_true, decide_eq_true_eq] at h
    exact h.2
  · simp
theorem tok_lt {w : World} {g n : Nat} {l : List (Int × Int)} (h : TokOwn w g n l) : g + 1 ≤ w.heap.size := by obtain ⟨_, cs, hblk, _⟩ := h; exact hblk.lt
theorem tok_mark {w w' : World} {g n base m k size : Nat} {e : TypeId} {v : Value} {l : List (Int × Int)} {lo hi : Nat} (h : TokOwn w g n l) (hm : MarkOut w base e size v m k w') (hv : InR v lo hi) (hd : g < lo ∨ hi ≤ g) : TokOwn w' g n l := by
  have hlt := tok_lt h
  obtain ⟨hl, cs, hblk, rest⟩ := h
  refine ⟨hl, cs, ?_, rest⟩
  exact (hm.1.block g (by omega) (fun he => by have := hv g he.symm; omega)).trans hblk

set_option maxHeartbeats 800000 in
theorem markTokS_more (w : World) (base : Nat) (A : Option Addr) (n c : Nat) (xs : List Value) (hown : w.ownsRow base 70 2 (.slice A n c) n xs) (k : Nat) (hn : n ≤ 3000000) (hk : k ≤ 6000000) :
    Calls Tryd.prog 20 #[.slice A n c, .int .i64 k] w fun e w' => e = .returned (.int .i64 ((k + n * 2 : Nat) : Int)) ∧ MarkOut w base 70 2 (.slice A n c) n k w' := by
  by_cases h0 : n = 0
  · subst h0
    have HO := Lib.hid (own_empty hown k)
    clear hown
    go_enter Tryd.func20, Tryd.ntmps20
    go_wp2
    go_loop [1, 5] (fun m i => m = .int .i64 k ∧ i = .int .i64 0) (fun _ _ => 0)
    case atStart => exact ⟨rfl, rfl⟩
    case round =>
      obtain ⟨rfl, rfl⟩ := hrel
      go_wp2
      go_ret
      exact ⟨rfl, World.grownBy.refl _ _, rfl, HO.out⟩
  · rcases hown.2 with ⟨_, h⟩ | ⟨g, cap, cur, hv, hb, hgg, h1, h2, h3, h4⟩
    · omega
    · injection hv with e1 e2 e3
      subst e1; subst e3
      have hblk : Blk w g 70 cur := hgg
      have HS : Hid (Marking w g 70 (c * 2) k 0 w) := ⟨World.grownBy.refl _ _, rfl, cur, hblk, h3, by intro i hi; omega⟩
      have HW := Lib.hid hown
      clear hgg hblk h3 h4 hown
      go_enter Tryd.func20, Tryd.ntmps20
      go_wp2
      go_loopw [1, 5] (fun m i wr => ∃ j : Nat, j ≤ n ∧ i = .int .i64 j ∧ m = .int .i64 ((k + j * 2 : Nat) : Int) ∧ Marking w g 70 (c * 2) k (j * 2) wr) (fun _ i _ => n - (intOf i).toNat)
      case atStart => exact ⟨0, Nat.zero_le _, rfl, rfl, HS.out⟩
      case round =>
        obtain ⟨j, hj, rfl, rfl, hM⟩ := hrel
        by_cases hlt : j < n
        · have hM1 := marking_step hM (by omega)
          have HN := Lib.hid (marking_step hM1 (by omega))
          obtain ⟨_, _, cs, hblk, hs, _⟩ := hM
          have f1 := hblk.thawed (j * 2)
          have f2 := hblk.thawed (j * 2 + 1)
          obtain ⟨v1, d1⟩ : ∃ v1, wr.cell? ⟨g, j * 2, none⟩ = some v1 := ⟨_, (hblk.cell _).trans (Array.getElem?_eq_getElem (by omega))⟩
          obtain ⟨v2, d2⟩ : ∃ v2, wr.cell? ⟨g, j * 2 + 1, none⟩ = some v2 := ⟨_, (hblk.cell _).trans (Array.getElem?_eq_getElem (by omega))⟩
          clear hblk hs hM1
          go_wp2
          go_roundw
          case rel => exact ⟨j + 1, by omega, by go_num, by go_num, by
            have h := HN.out
            rw [show (j + 1) * 2 = j * 2 + 1 + 1 by omega]
            simpa [Nat.add_assoc, Int.add_assoc] using h⟩
          case measure => simp [intOf]; omega
        · obtain rfl : j = n := by omega
          have HM := Lib.hid hM
          clear hM
          go_wp2
          go_ret
          have hM := HM.out
          exact ⟨rfl, hM.1, hM.2.1, marked (size := 2) HW.out hM⟩

set_option maxRecDepth 100000 in
set_option maxHeartbeats 4000000 in
theorem arenaPutLaw_any (w : World) (B : Nat) (A1 : Option Addr) (n1 c1 : Nat) (l1 : List Nd) (A2 : Option Addr) (n2 c2 : Nat) (l2 : List (Int × Int)) (T : TypeId) (pv : Value) (h0 : 0 < B) (hB : B ≤ w.heap.size)
    (hl1 : NodR w B A1 n1 l1) (hn1 : (n1 : Int) ≤ 9223372036854775807) (hl2 : TokR w B A2 n2 l2) (hn2 : (n2 : Int) ≤ 9223372036854775807) (hE : ErrAt w T pv) :
    Calls Tryd.prog 3 #[.slice A1 n1 c1, .slice A2 n2 c2] w fun e w' => e = .returned (.bool true) ∧ Below w.heap.size w w' := by
  by_cases hbig : (1048576 : Int) < n1
  · go_enter Tryd.func3, Tryd.ntmps3
    go_wp2_with fail
    refine (szNodeS_any A1 n1 c1 1048576 w (by omega) (by omega) hn1).mono ?_
    rintro e w' ⟨rfl, rfl⟩
    rw [if_pos hbig]
    go_wp2
    go_ret
    exact ⟨rfl, Below.refl _ _⟩
  by_cases hbig2 : 1048576 - (n1 : Int) < (n2 : Int)
  · go_enter Tryd.func3, Tryd.ntmps3
    go_wp2_with fail
    refine (szNodeS_any A1 n1 c1 1048576 w (by omega) (by omega) hn1).mono ?_
    rintro e w' ⟨rfl, rfl⟩
    rw [if_neg (by omega)]
    have hs1 : ¬ (1048576 - (n1 : Int) < 0) := by omega
    go_wp2_with fail
    refine (szTokS_any A2 n2 c2 (1048576 - (n1 : Int)) w (by omega) (by omega) hn2).mono ?_
    rintro e w' ⟨rfl, rfl⟩
    rw [if_pos (by omega)]
    go_wp2
    go_ret
    exact ⟨rfl, Below.refl _ _⟩
  · have hm1 : n1 ≤ 1048576 := by omega
    have hm2 : n2 ≤ 1048576 := by omega
    have hNL : (putNs l1 l2).length ≤ 200 := putNs_len
    generalize hNN : putNs l1 l2 = NN at hNL
    generalize hIX : putIx l1 l2 = ix
    generalize hOK : putOk l1 l2 = ok
    have hspec : ∀ (w : World) (B : Nat) (a : Addr) (c : Nat) (B2 : Nat) (A2 : Option Addr) (c2 : Nat), B ≤ w.heap.size → NodR w B (some a) n1 l1 → B2 ≤ w.heap.size → TokR w B2 A2 n2 l2 →
        Calls Tryd.prog 13 #[.slice (some a) n1 c, .slice A2 n2 c2] w (PutOut w ok NN ix) := by
      intro w B a c B2 A2 c2 h1 h2 h4 h5
      have := specAPut_any w B a n1 c l1 B2 A2 n2 c2 l2 h1 h2 hm1 h4 h5 hm2
      rw [hNN, hIX, hOK] at this
      exact this
    have himpl : ∀ (w : World) (B : Nat) (a : Addr) (c : Nat) (B2 : Nat) (A2 : Option Addr) (c2 : Nat), 0 < B2 → ErrAt w T pv → B ≤ w.heap.size → NodR w B (some a) n1 l1 → B2 ≤ w.heap.size → TokR w B2 A2 n2 l2 →
        Calls Tryd.prog 16 #[.slice (some a) n1 c, .slice A2 n2 c2] w (PutOut w ok NN ix) := by
      intro w B a c B2 A2 c2 h0 hE h1 h2 h4 h5
      have := implAPut_any w B (some a) n1 c l1 B2 A2 n2 c2 l2 T pv h0 h1 h2 hm1 h4 h5 hm2 hE
      rw [hNN, hIX, hOK] at this
      exact this
    clear hNN hIX hOK
    go_enter Tryd.func3, Tryd.ntmps3
    go_wp2_with fail
    refine (szNodeS_any A1 n1 c1 1048576 w (by omega) (by omega) hn1).mono ?_
    rintro e w' ⟨rfl, rfl⟩
    rw [if_neg (by omega)]
    have hs1 : ¬ (1048576 - (n1 : Int) < 0) := by omega
    go_wp2_with fail
    refine (szTokS_any A2 n2 c2 (1048576 - (n1 : Int)) w (by omega) (by omega) hn2).mono ?_
    rintro e w' ⟨rfl, rfl⟩
    rw [if_neg (by omega)]
    have hs2 : ¬ (1048576 - (n1 : Int) - (n2 : Int) < 0) := by omega
    have hB0 : Below w.heap.size w w := Below.refl _ _
    have hbb : (ok != ok) = false := by simp
    have hbi : (ix != ix) = false := by simp
    go_wp2_with fail
    refine (toNodeS_any w B A1 n1 c1 l1 (Nat.le_trans hB hB0.size) (hl1.below (hB0.mono hB)) hm1).mono ?_
    rintro e w1 ⟨rfl, hb1, p_w1⟩
    have hz1 : w.heap.size + 1 ≤ w1.heap.size := p_w1.lt
    have hB1 : Below w.heap.size w w1 := hB0.trans (hb1.mono hB0.size)
    have s1 := hb1.size
    clear hb1
    go_wp2_with fail
    refine (toTokS_any w1 B A2 n2 c2 l2 (Nat.le_trans hB hB1.size) (hl2.below (hB1.mono hB)) hm2).mono ?_
    rintro e w2 ⟨rfl, hb2, q_w2⟩
    have hz2 : w1.heap.size + 1 ≤ w2.heap.size := tok_lt q_w2
    have hB2 : Below w.heap.size w w2 := hB1.trans (hb2.mono hB1.size)
    have s2 := hb2.size
    have p_w2 := p_w1.below hb2 (by omega)
    clear p_w1
    clear hb2
    go_wp2_with fail
    refine (hspec w2 w2.heap.size ⟨w.heap.size, 0, none⟩ n1 w2.heap.size (some ⟨w1.heap.size, 0, none⟩) n2 (Nat.le_refl _) (p_w2.reads.more (by omega)) (Nat.le_refl _) (q_w2.reads.more (by omega))).mono ?_
    rintro e w3 ⟨Aw, cw, rfl, w_w3, hb3⟩
    have hB3 : Below w.heap.size w w3 := hB2.trans (hb3.mono hB2.size)
    have s3 := hb3.size
    have p_w3 := p_w2.below hb3 (by omega)
    clear p_w2
    have q_w3 := q_w2.below hb3 (by omega)
    clear q_w2
    clear hb3
    have iw : InR (.slice Aw NN.length cw) w2.heap.size w3.heap.size := own_in w_w3
    clear p_w3
    clear q_w3
    go_wp2_with fail
    refine (toNodeS_any w3 B A1 n1 c1 l1 (Nat.le_trans hB hB3.size) (hl1.below (hB3.mono hB)) hm1).mono ?_
    rintro e w4 ⟨rfl, hb4, x_w4⟩
    have hz4 : w3.heap.size + 1 ≤ w4.heap.size := x_w4.lt
    have hB4 : Below w.heap.size w w4 := hB3.trans (hb4.mono hB3.size)
    have s4 := hb4.size
    have w_w4 := own_below' w_w3 hb4
    clear w_w3
    clear hb4
    go_wp2_with fail
    refine (toTokS_any w4 B A2 n2 c2 l2 (Nat.le_trans hB hB4.size) (hl2.below (hB4.mono hB)) hm2).mono ?_
    rintro e w5 ⟨rfl, hb5, y_w5⟩
    have hz5 : w4.heap.size + 1 ≤ w5.heap.size := tok_lt y_w5
    have hB5 : Below w.heap.size w w5 := hB4.trans (hb5.mono hB4.size)
    have s5 := hb5.size
    have w_w5 := own_below' w_w4 hb5
    clear w_w4
    have x_w5 := x_w4.below hb5 (by omega)
    clear x_w4
    clear hb5
    go_wp2_with fail
    refine (himpl w5 w5.heap.size ⟨w3.heap.size, 0, none⟩ n1 w5.heap.size (some ⟨w4.heap.size, 0, none⟩) n2 (by omega) (hE.below (hB5.mono hB) h0) (Nat.le_refl _) (x_w5.reads.more (by omega)) (Nat.le_refl _) (y_w5.reads.more (by omega))).mono ?_
    rintro e w6 ⟨Ag, cg, rfl, g_w6, hb6⟩
    have hB6 : Below w.heap.size w w6 := hB5.trans (hb6.mono hB5.size)
    have s6 := hb6.size
    have w_w6 := own_below' w_w5 hb6
    clear w_w5
    have x_w6 := x_w5.below hb6 (by omega)
    clear x_w5
    have y_w6 := y_w5.below hb6 (by omega)
    clear y_w5
    clear hb6
    have ig : InR (.slice Ag NN.length cg) w5.heap.size w6.heap.size := own_in g_w6
    go_wp2_with fail
    refine (eqNodeS_any w6 w6.heap.size _ _ _ _ _ _ _ _ (Nat.le_refl _) (OwnN.reads g_w6) (OwnN.reads w_w6) (by omega) (by omega)).mono ?_
    rintro e w7 ⟨rfl, hb7⟩
    rw [decide_eq_true rfl]
    have hB7 : Below w.heap.size w w7 := hB6.trans (hb7.mono hB6.size)
    have s7 := hb7.size
    have w_w7 := own_below' w_w6 hb7
    clear w_w6
    have g_w7 := own_below' g_w6 hb7
    clear g_w6
    have x_w7 := x_w6.below hb7 (by omega)
    clear x_w6
    have y_w7 := y_w6.below hb7 (by omega)
    clear y_w6
    clear hb7
    go_wp2_with fail
    refine (toNodeS_any w7 B A1 n1 c1 l1 (Nat.le_trans hB hB7.size) (hl1.below (hB7.mono hB)) hm1).mono ?_
    rintro e w8 ⟨rfl, hb8, z_w8⟩
    have hz8 : w7.heap.size + 1 ≤ w8.heap.size := z_w8.lt
    have hB8 : Below w.heap.size w w8 := hB7.trans (hb8.mono hB7.size)
    have s8 := hb8.size
    have w_w8 := own_below' w_w7 hb8
    clear w_w7
    have g_w8 := own_below' g_w7 hb8
    clear g_w7
    have x_w8 := x_w7.below hb8 (by omega)
    clear x_w7
    have y_w8 := y_w7.below hb8 (by omega)
    clear y_w7
    clear hb8
    go_wp2_with fail
    refine (eqNodeS_any w8 w8.heap.size _ _ n1 n1 n1 n1 l1 l1 (Nat.le_refl _) (x_w8.reads.more (by omega)) (z_w8.reads.more (by omega)) (by omega) (by omega)).mono ?_
    rintro e w9 ⟨rfl, hb9⟩
    rw [decide_eq_true rfl]
    have hB9 : Below w.heap.size w w9 := hB8.trans (hb9.mono hB8.size)
    have s9 := hb9.size
    have w_w9 := own_below' w_w8 hb9
    clear w_w8
    have g_w9 := own_below' g_w8 hb9
    clear g_w8
    have x_w9 := x_w8.below hb9 (by omega)
    clear x_w8
    have y_w9 := y_w8.below hb9 (by omega)
    clear y_w8
    have z_w9 := z_w8.below hb9 (by omega)
    clear z_w8
    clear hb9
    clear z_w9
    go_wp2_with fail
    refine (toTokS_any w9 B A2 n2 c2 l2 (Nat.le_trans hB hB9.size) (hl2.below (hB9.mono hB)) hm2).mono ?_
    rintro e w10 ⟨rfl, hb10, z_w10⟩
    have hz10 : w9.heap.size + 1 ≤ w10.heap.size := tok_lt z_w10
    have hB10 : Below w.heap.size w w10 := hB9.trans (hb10.mono hB9.size)
    have s10 := hb10.size
    have w_w10 := own_below' w_w9 hb10
    clear w_w9
    have g_w10 := own_below' g_w9 hb10
    clear g_w9
    have x_w10 := x_w9.below hb10 (by omega)
    clear x_w9
    have y_w10 := y_w9.below hb10 (by omega)
    clear y_w9
    clear hb10
    go_wp2_with fail
    refine (eqTokS_any w10 w10.heap.size _ _ n2 n2 n2 n2 l2 l2 (Nat.le_refl _) (y_w10.reads.more (by omega)) (z_w10.reads.more (by omega)) (by omega) (by omega)).mono ?_
    rintro e w11 ⟨rfl, hb11⟩
    rw [decide_eq_true rfl]
    have hB11 : Below w.heap.size w w11 := hB10.trans (hb11.mono hB10.size)
    have s11 := hb11.size
    have w_w11 := own_below' w_w10 hb11
    clear w_w10
    have g_w11 := own_below' g_w10 hb11
    clear g_w10
    have x_w11 := x_w10.below hb11 (by omega)
    clear x_w10
    have y_w11 := y_w10.below hb11 (by omega)
    clear y_w10
    have z_w11 := z_w10.below hb11 (by omega)
    clear z_w10
    clear hb11
    clear z_w11
    have hx := x_w11.owns hm1
    have ix : InR (.slice (some ⟨w3.heap.size, 0, none⟩) n1 n1) w3.heap.size (w3.heap.size + 1) := fun k hk => by have h' : w3.heap.size = k := (by simpa [Value.ownBlock] using hk); omega
    clear x_w11
    go_wp2_with fail
    refine (markNodeS_any w11 _ _ n1 n1 _ hx (1) (by omega) (by omega)).mono ?_
    rintro e w12 ⟨rfl, hk12⟩
    have hB12 : Below w.heap.size w w12 := markBelow hB11 hk12 ix (by omega) hB11.size
    have w_w12 := markKept w_w11 hk12 ix iw (by omega)
    clear w_w11
    have g_w12 := markKept g_w11 hk12 ix ig (by omega)
    clear g_w11
    have y_w12 := tok_mark y_w11 hk12 ix (by omega)
    clear y_w11
    have s12 : w11.heap.size ≤ w12.heap.size := by rw [hk12.2.1]; exact Nat.le_refl _
    clear hk12 hx ix
    have hx := y_w12.owns hm2
    have ix : InR (.slice (some ⟨w4.heap.size, 0, none⟩) n2 n2) w4.heap.size (w4.heap.size + 1) := fun k hk => by have h' : w4.heap.size = k := (by simpa [Value.ownBlock] using hk); omega
    clear y_w12
    go_wp2_with fail
    refine (markTokS_more w12 _ _ n2 n2 _ hx (1 + n1 * 4) (by omega) (by omega)).mono ?_
    rintro e w13 ⟨rfl, hk13⟩
    have hB13 : Below w.heap.size w w13 := markBelow hB12 hk13 ix (by omega) hB12.size
    have w_w13 := markKept w_w12 hk13 ix iw (by omega)
    clear w_w12
    have g_w13 := markKept g_w12 hk13 ix ig (by omega)
    clear g_w12
    have s13 : w12.heap.size ≤ w13.heap.size := by rw [hk13.2.1]; exact Nat.le_refl _
    clear hk13 hx ix
    have hkk : ¬ (((1 + n1 * 4 + n2 * 2 : Nat) : Int) < 0) := by omega
    go_wp2_with fail
    refine (eqNodeS_any w13 w13.heap.size _ _ _ _ _ _ _ _ (Nat.le_refl _) (OwnN.reads g_w13) (OwnN.reads w_w13) (by omega) (by omega)).mono ?_
    rintro e w14 ⟨rfl, hb14⟩
    rw [decide_eq_true rfl]
    have hB14 : Below w.heap.size w w14 := hB13.trans (hb14.mono hB13.size)
    have s14 := hb14.size
    have w_w14 := own_below' w_w13 hb14
    clear w_w13
    have g_w14 := own_below' g_w13 hb14
    clear g_w13
    clear hb14
    go_wp2_with fail
    refine (markNodeS_any w14 _ _ _ _ _ g_w14 (1) (by omega) (by omega)).mono ?_
    rintro e w15 ⟨rfl, hk15⟩
    have hB15 : Below w.heap.size w w15 := markBelow hB14 hk15 ig (by omega) hB14.size
    have w_w15 := markKept w_w14 hk15 ig iw (by omega)
    clear w_w14
    have g_w15 := hk15.2.2
    clear g_w14
    have s15 : w14.heap.size ≤ w15.heap.size := by rw [hk15.2.1]; exact Nat.le_refl _
    clear hk15
    go_wp2_with fail
    refine (heldNodeS_any w15 _ _ _ _ (1) g_w15 (by omega) (by omega)).mono ?_
    rintro e w' ⟨rfl, rfl⟩
    have hq1 : ¬ (((1 + NN.length * 4 : Nat) : Int) < 0) := by omega
    have hq3 : (((1 + NN.length * 4 : Nat) : Int) != ((1 + NN.length * 4 : Nat) : Int)) = false := by simp
    go_wp2_with fail
    refine (toNodeS_any w15 B A1 n1 c1 l1 (Nat.le_trans hB hB15.size) (hl1.below (hB15.mono hB)) hm1).mono ?_
    rintro e w16 ⟨rfl, hb16, x_w16⟩
    have hz16 : w15.heap.size + 1 ≤ w16.heap.size := x_w16.lt
    have hB16 : Below w.heap.size w w16 := hB15.trans (hb16.mono hB15.size)
    have s16 := hb16.size
    have w_w16 := own_below' w_w15 hb16
    clear w_w15
    have g_w16 := own_below' g_w15 hb16
    clear g_w15
    clear hb16
    go_wp2_with fail
    refine (toTokS_any w16 B A2 n2 c2 l2 (Nat.le_trans hB hB16.size) (hl2.below (hB16.mono hB)) hm2).mono ?_
    rintro e w17 ⟨rfl, hb17, y_w17⟩
    have hz17 : w16.heap.size + 1 ≤ w17.heap.size := tok_lt y_w17
    have hB17 : Below w.heap.size w w17 := hB16.trans (hb17.mono hB16.size)
    have s17 := hb17.size
    have w_w17 := own_below' w_w16 hb17
    clear w_w16
    have g_w17 := own_below' g_w16 hb17
    clear g_w16
    have x_w17 := x_w16.below hb17 (by omega)
    clear x_w16
    clear hb17
    go_wp2_with fail
    refine (himpl w17 w17.heap.size ⟨w15.heap.size, 0, none⟩ n1 w17.heap.size (some ⟨w16.heap.size, 0, none⟩) n2 (by omega) (hE.below (hB17.mono hB) h0) (Nat.le_refl _) (x_w17.reads.more (by omega)) (Nat.le_refl _) (y_w17.reads.more (by omega))).mono ?_
    rintro e w18 ⟨Ar, cr, rfl, r_w18, hb18⟩
    have hB18 : Below w.heap.size w w18 := hB17.trans (hb18.mono hB17.size)
    have s18 := hb18.size
    have w_w18 := own_below' w_w17 hb18
    clear w_w17
    have g_w18 := own_below' g_w17 hb18
    clear g_w17
    have x_w18 := x_w17.below hb18 (by omega)
    clear x_w17
    have y_w18 := y_w17.below hb18 (by omega)
    clear y_w17
    clear hb18
    have ir : InR (.slice Ar NN.length cr) w17.heap.size w18.heap.size := own_in r_w18
    clear x_w18
    clear y_w18
    go_wp2_with fail
    refine (eqNodeS_any w18 w18.heap.size _ _ _ _ _ _ _ _ (Nat.le_refl _) (OwnN.reads r_w18) (OwnN.reads w_w18) (by omega) (by omega)).mono ?_
    rintro e w19 ⟨rfl, hb19⟩
    rw [decide_eq_true rfl]
    have hB19 : Below w.heap.size w w19 := hB18.trans (hb19.mono hB18.size)
    have s19 := hb19.size
    have w_w19 := own_below' w_w18 hb19
    clear w_w18
    have g_w19 := own_below' g_w18 hb19
    clear g_w18
    have r_w19 := own_below' r_w18 hb19
    clear r_w18
    clear hb19
    clear w_w19
    clear r_w19
    go_wp2_with fail
    refine (heldNodeS_any w19 _ _ _ _ (1) g_w19 (by omega) (by omega)).mono ?_
    rintro e w' ⟨rfl, rfl⟩
    go_wp2
    go_ret
    exact ⟨rfl, hB19⟩
end Go.Proofs.YtfmhmnpmdjpmeaaDoor
