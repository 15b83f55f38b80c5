/- The laws' marks upon slices of nodes. -/
/- The law FnExactArenaKeep: the walk. -/
import Derived.Test.YtfmhmnpmdjpmeaaRegInv
import Derived.Test.YtfmhmnpmdjpmeaaNdKpT

namespace Go.Proofs.Ytfmhmnpmdjpmeaa
open Go.RowKit

set_option maxHeartbeats 800000 in
theorem markNodeS_any (w : World) (base : Nat) (A : Option Addr) (n c : Nat) (xs : List Value) (hown : w.ownsRow base 57 4 (.slice A n c) n xs) (k : Nat) (hn : n ≤ 3000000) (hk : k ≤ 3000000) :
    Calls Try.prog 14 #[.slice A n c, .int .i64 k] w fun e w' => e = .returned (.int .i64 ((k + n * 4 : Nat) : Int)) ∧ MarkOut w base 57 4 (.slice A n c) n k w' := by
  by_cases h0 : n = 0
  · subst h0
    have HO := Lib.hid (own_empty hown k)
    clear hown
    go_enter Try.func14, Try.ntmps14
    go_wp2
    go_loop [1, 5] (fun m i => m = .int .i64 k ∧ i = .int .i64 0) (fun _ _ => 0)
    case atStart => exact ⟨rfl, rfl⟩
    case round =>
      obtain ⟨rfl, rfl⟩ := hrel
      go_wp2
      go_ret
      exact ⟨rfl, World.grownBy.refl _ _, rfl, HO.out⟩
  · rcases hown.2 with ⟨_, h⟩ | ⟨g, cap, cur, hv, hb, hgg, h1, h2, h3, h4⟩
    · omega
    · injection hv with e1 e2 e3
      subst e1; subst e3
      have hblk : Blk w g 57 cur := hgg
      have HS : Hid (Marking w g 57 (c * 4) k 0 w) := ⟨World.grownBy.refl _ _, rfl, cur, hblk, h3, by intro i hi; omega⟩
      have HW := Lib.hid hown
      clear hgg hblk h3 h4 hown
      go_enter Try.func14, Try.ntmps14
      go_wp2
      go_loopw [1, 5] (fun m i wr => ∃ j : Nat, j ≤ n ∧ i = .int .i64 j ∧ m = .int .i64 ((k + j * 4 : Nat) : Int) ∧ Marking w g 57 (c * 4) k (j * 4) wr) (fun _ i _ => n - (intOf i).toNat)
      case atStart => exact ⟨0, Nat.zero_le _, rfl, rfl, HS.out⟩
      case round =>
        obtain ⟨j, hj, rfl, rfl, hM⟩ := hrel
        by_cases hlt : j < n
        · have hM1 := marking_step hM (by omega)
          have hM2 := marking_step hM1 (by omega)
          have hM3 := marking_step hM2 (by omega)
          have HN := Lib.hid (marking_step hM3 (by omega))
          obtain ⟨_, _, cs, hblk, hs, _⟩ := hM
          have f1 := hblk.thawed (j * 4)
          have f2 := hblk.thawed (j * 4 + 1)
          have f3 := hblk.thawed (j * 4 + 2)
          have f4 := hblk.thawed (j * 4 + 3)
          obtain ⟨v1, d1⟩ : ∃ v1, wr.cell? ⟨g, j * 4, none⟩ = some v1 := ⟨_, (hblk.cell _).trans (Array.getElem?_eq_getElem (by omega))⟩
          obtain ⟨v2, d2⟩ : ∃ v2, wr.cell? ⟨g, j * 4 + 1, none⟩ = some v2 := ⟨_, (hblk.cell _).trans (Array.getElem?_eq_getElem (by omega))⟩
          obtain ⟨v3, d3⟩ : ∃ v3, wr.cell? ⟨g, j * 4 + 2, none⟩ = some v3 := ⟨_, (hblk.cell _).trans (Array.getElem?_eq_getElem (by omega))⟩
          obtain ⟨v4, d4⟩ : ∃ v4, wr.cell? ⟨g, j * 4 + 3, none⟩ = some v4 := ⟨_, (hblk.cell _).trans (Array.getElem?_eq_getElem (by omega))⟩
          clear hblk hs hM1 hM2 hM3
          go_wp2
          go_roundw
          case rel => exact ⟨j + 1, by omega, by go_num, by go_num, by
            have h := HN.out
            rw [show (j + 1) * 4 = j * 4 + 1 + 1 + 1 + 1 by omega]
            simpa [Nat.add_assoc, Int.add_assoc] using h⟩
          case measure => simp [intOf]; omega
        · obtain rfl : j = n := by omega
          have HM := Lib.hid hM
          clear hM
          go_wp2
          go_ret
          have hM := HM.out
          exact ⟨rfl, hM.1, hM.2.1, marked (size := 4) HW.out hM⟩

set_option maxHeartbeats 800000 in
theorem heldNodeS_any (w : World) (base : Nat) (A : Option Addr) (n c : Nat) (k : Nat) (hown : w.ownsRow base 57 4 (.slice A n c) n (marks k (n * 4))) (hn : n ≤ 3000000) (hk : k ≤ 3000000) :
    Calls Try.prog 16 #[.slice A n c, .int .i64 k] w fun e w' => e = .returned (.int .i64 ((k + n * 4 : Nat) : Int)) ∧ w = w' := by
  by_cases h0 : n = 0
  · subst h0
    clear hown
    go_enter Try.func16, Try.ntmps16
    go_wp2
    go_loop [1, 5] (fun m i => m = .int .i64 k ∧ i = .int .i64 0) (fun _ _ => 0)
    case atStart => exact ⟨rfl, rfl⟩
    case round =>
      obtain ⟨rfl, rfl⟩ := hrel
      go_wp2
      go_ret
      exact ⟨rfl, rfl⟩
  · rcases hown.2 with ⟨_, h⟩ | ⟨g, cap, cur, hv, hb, hgg, h1, h2, h3, h4⟩
    · omega
    · injection hv with e1 e2 e3
      subst e1; subst e3
      have HC : Hid (∀ j, j < n * 4 → w.cell? ⟨g, j, none⟩ = some (.int .i64 ((k + j : Nat) : Int))) := by
        intro j hj
        have := hown.cells (g := g) rfl j _ (marks_at k (n * 4) j (by omega))
        rw [own_adds] at this
        exact this
      clear hgg h3 h4 hown
      go_enter Try.func16, Try.ntmps16
      go_wp2
      go_loop [1, 5] (fun m i => ∃ j : Nat, j ≤ n ∧ i = .int .i64 j ∧ m = .int .i64 ((k + j * 4 : Nat) : Int)) (fun _ i => n - (intOf i).toNat)
      case atStart => exact ⟨0, Nat.zero_le _, rfl, rfl⟩
      case round =>
        obtain ⟨j, hj, rfl, rfl⟩ := hrel
        by_cases hlt : j < n
        · have d1 := HC.out (j * 4) (by omega)
          have d2 := HC.out (j * 4 + 1) (by omega)
          have d3 := HC.out (j * 4 + 2) (by omega)
          have d4 := HC.out (j * 4 + 3) (by omega)
          rw [show ((k + (j * 4 + 1) : Nat) : Int) = (k : Int) + (j : Int) * 4 + 1 by omega] at d2
          rw [show ((k + (j * 4 + 2) : Nat) : Int) = (k : Int) + (j : Int) * 4 + 2 by omega] at d3
          rw [show ((k + (j * 4 + 3) : Nat) : Int) = (k : Int) + (j : Int) * 4 + 3 by omega] at d4
          go_wp2
          go_round
          case rel => exact ⟨j + 1, by omega, by go_num, by go_num⟩
          case measure => simp [intOf]; omega
        · obtain rfl : j = n := by omega
          go_wp2
          go_ret
          exact ⟨rfl, rfl⟩
theorem NodOwn.mark {w w' : World} {g n base m k size : Nat} {e : TypeId} {v : Value} {l : List Nd} {lo hi : Nat} (h : NodOwn w g n l) (hm : MarkOut w base e size v m k w') (hv : InR v lo hi) (hd : g < lo ∨ hi ≤ g) : NodOwn w' g n l := by
  obtain ⟨hl, cs, hblk, rest⟩ := h
  refine ⟨hl, cs, ?_, rest⟩
  exact (hm.1.block g hblk.lt (fun he => by have := hv g he.symm; omega)).trans hblk
end Go.Proofs.Ytfmhmnpmdjpmeaa

namespace Go.Proofs.Ytfmhmnpmdjpmeaa
open Go.RowKit

theorem keepN_len {l : List Nd} {n : Nat} {is : List Int} (h : l.length = n) : (keepN l n is).length ≤ 200 := by
  unfold keepN
  split
  · rename_i hk
    rw [Bool.and_eq_true] at hk
    have hok := hk.1
    unfold arenaOkR at hok
    rw [Bool.and_eq_true, decide_eq_true_eq] at hok
    have h2 := pickTo_len (rootsR l n is) n
    rw [leftN_len]
    omega
  · simp
theorem keepI_len {l : List Nd} {n n2 : Nat} {is : List Int} (h : is.length = n2) : (keepI l n is).length ≤ n2 := by
  unfold keepI
  split
  · simp [h]
  · simp
theorem iown_lt {w : World} {g n : Nat} {l : List Int} (h : IntOwn w g n l) : g + 1 ≤ w.heap.size := by obtain ⟨_, cs, hblk, _⟩ := h; exact hblk.lt
theorem iown_below {w w' : World} {g n B : Nat} {l : List Int} (h : IntOwn w g n l) (hb : Below B w w') (hg : g < B) : IntOwn w' g n l := by
  obtain ⟨hl, cs, hblk, rest⟩ := h
  exact ⟨hl, cs, hblk.below hb hg, rest⟩
theorem iown_owns {w : World} {g n : Nat} {l : List Int} (h : IntOwn w g n l) (hn : n ≤ 1048576) : OwnI w g (some ⟨g, 0, none⟩) n n l := by
  obtain ⟨hl, cs, hblk, hs, hc⟩ := h
  refine ⟨by simp [hl], .inr ⟨g, n, cs, rfl, Nat.le_refl _, hblk, Nat.le_refl _, by unfold maxLen; omega, by simpa using hs, ?_⟩⟩
  rw [Nat.mul_one, ← hs, List.take_of_length_le (by simp)]
  apply List.ext_getElem?
  intro i
  by_cases hi : i < n
  · have := hc i hi
    rw [Array.getElem?_toList, this]
    simp [List.getD_eq_getElem?_getD, List.getElem?_eq_getElem (show i < l.length by omega)]
  · rw [List.getElem?_eq_none (by simp; omega), List.getElem?_eq_none (by simp; omega)]
theorem iown_mark {w w' : World} {g n base m k size : Nat} {e : TypeId} {v : Value} {l : List Int} {lo hi : Nat} (h : IntOwn w g n l) (hm : MarkOut w base e size v m k w') (hv : InR v lo hi) (hd : g < lo ∨ hi ≤ g) : IntOwn w' g n l := by
  obtain ⟨hl, cs, hblk, rest⟩ := h
  refine ⟨hl, cs, ?_, rest⟩
  exact (hm.1.block g hblk.lt (fun he => by have := hv g he.symm; omega)).trans hblk
set_option maxHeartbeats 800000 in
theorem markIntS_big (w : World) (base : Nat) (A : Option Addr) (n c : Nat) (xs : List Value) (hown : w.ownsRow base 3 1 (.slice A n c) n xs) (k : Nat) (hn : n ≤ 3000000) (hk : k ≤ 6000000) :
    Calls Try.prog 15 #[.slice A n c, .int .i64 k] w fun e w' => e = .returned (.int .i64 ((k + n : Nat) : Int)) ∧ MarkOut w base 3 1 (.slice A n c) n k w' := by
  by_cases h0 : n = 0
  · subst h0
    have HO := Lib.hid (own_empty hown k)
    clear hown
    go_enter Try.func15, Try.ntmps15
    go_wp2
    go_loop [1, 5] (fun m i => m = .int .i64 k ∧ i = .int .i64 0) (fun _ _ => 0)
    case atStart => exact ⟨rfl, rfl⟩
    case round =>
      obtain ⟨rfl, rfl⟩ := hrel
      go_wp2
      go_ret
      exact ⟨rfl, World.grownBy.refl _ _, rfl, HO.out⟩
  · rcases hown.2 with ⟨_, h⟩ | ⟨g, cap, cur, hv, hb, hgg, h1, h2, h3, h4⟩
    · omega
    · injection hv with e1 e2 e3
      subst e1; subst e3
      have hblk : Blk w g 3 cur := hgg
      have HS : Hid (Marking w g 3 (c * 1) k 0 w) := ⟨World.grownBy.refl _ _, rfl, cur, hblk, h3, by intro i hi; omega⟩
      have HW := Lib.hid hown
      clear hgg hblk h3 h4 hown
      go_enter Try.func15, Try.ntmps15
      go_wp2
      go_loopw [1, 5] (fun m i wr => ∃ j : Nat, j ≤ n ∧ i = .int .i64 j ∧ m = .int .i64 ((k + j : Nat) : Int) ∧ Marking w g 3 (c * 1) k j wr) (fun _ i _ => n - (intOf i).toNat)
      case atStart => exact ⟨0, Nat.zero_le _, rfl, rfl, HS.out⟩
      case round =>
        obtain ⟨j, hj, rfl, rfl, hM⟩ := hrel
        by_cases hlt : j < n
        · have HN := Lib.hid (marking_step hM (by omega))
          obtain ⟨_, _, cs, hblk, hs, _⟩ := hM
          have f1 := hblk.thawed j
          obtain ⟨v1, d1⟩ : ∃ v1, wr.cell? ⟨g, j, none⟩ = some v1 := ⟨_, (hblk.cell _).trans (Array.getElem?_eq_getElem (by omega))⟩
          clear hblk hs
          go_wp2
          go_roundw
          case rel => exact ⟨j + 1, by omega, by go_num, by go_num, by simpa using HN.out⟩
          case measure => simp [intOf]; omega
        · obtain rfl : j = n := by omega
          have HM := Lib.hid hM
          clear hM
          go_wp2
          go_ret
          have hM := HM.out
          exact ⟨rfl, hM.1, hM.2.1, marked (size := 1) HW.out (by simpa using hM)⟩

set_option maxRecDepth 100000 in
set_option maxHeartbeats 4000000 in
theorem arenaKeepLaw_any (w : World) (B : Nat) (A1 : Option Addr) (n1 c1 : Nat) (l1 : List Nd) (A2 : Option Addr) (n2 c2 : Nat) (l2 : List Int) (hB : B ≤ w.heap.size)
    (hl1 : NodR w B A1 n1 l1) (hn1 : (n1 : Int) ≤ 9223372036854775807) (hl2 : IntR w B A2 n2 l2) (hn2 : (n2 : Int) ≤ 9223372036854775807) :
    Calls Try.prog 3 #[.slice A1 n1 c1, .slice A2 n2 c2] w fun e w' => e = .returned (.bool true) ∧ Below w.heap.size w w' := by
  by_cases hbig2 : (1048576 : Int) < n2
  · go_enter Try.func3, Try.ntmps3
    go_wp2
    go_ret
    exact ⟨rfl, Below.refl _ _⟩
  by_cases hbig : (1048576 : Int) < n1
  · go_enter Try.func3, Try.ntmps3
    go_wp2_with fail
    refine (szNodeS_any A1 n1 c1 1048576 w (by omega) (by omega) hn1).mono ?_
    rintro e w' ⟨rfl, rfl⟩
    rw [if_pos hbig]
    go_wp2
    go_ret
    exact ⟨rfl, Below.refl _ _⟩
  · have hm1 : n1 ≤ 1048576 := by omega
    have hm2 : n2 ≤ 1048576 := by omega
    have hNL : (keepN l1 n1 l2).length ≤ 200 := keepN_len hl1.1
    have hIL : (keepI l1 n1 l2).length ≤ n2 := keepI_len hl2.1
    generalize hNN : keepN l1 n1 l2 = NN at hNL
    generalize hII : keepI l1 n1 l2 = II at hIL
    generalize hOK : (arenaOkR l1 && idxR n1 l2) = ok
    have hspec : ∀ (w : World) (B : Nat) (A : Option Addr) (c : Nat) (B2 : Nat) (A2 : Option Addr) (c2 : Nat), B ≤ w.heap.size → NodR w B A n1 l1 → B2 ≤ w.heap.size → IntR w B2 A2 n2 l2 →
        Calls Try.prog 8 #[.slice A n1 c, .slice A2 n2 c2] w (KeepOut w ok NN II) := by
      intro w B A c B2 A2 c2 h1 h2 h4 h5
      have := specKeep_any w B A n1 c l1 B2 A2 n2 c2 l2 h1 h2 hm1 h4 h5 hm2
      rw [hNN, hII, hOK] at this
      exact this
    have himpl : ∀ (w : World) (B : Nat) (A : Option Addr) (c : Nat) (B2 : Nat) (A2 : Option Addr) (c2 : Nat), B ≤ w.heap.size → NodR w B A n1 l1 → B2 ≤ w.heap.size → IntR w B2 A2 n2 l2 →
        Calls Try.prog 11 #[.slice A n1 c, .slice A2 n2 c2] w (KeepOut w ok NN II) := by
      intro w B A c B2 A2 c2 h1 h2 h4 h5
      have := implKeep_any w B A n1 c l1 B2 A2 n2 c2 l2 h1 h2 hm1 h4 h5 hm2
      rw [hNN, hII, hOK] at this
      exact this
    clear hNN hII hOK
    go_enter Try.func3, Try.ntmps3
    go_wp2_with fail
    refine (szNodeS_any A1 n1 c1 1048576 w (by omega) (by omega) hn1).mono ?_
    rintro e w' ⟨rfl, rfl⟩
    rw [if_neg (by omega)]
    have hs : ¬ (1048576 - (n1 : Int) < 0) := by omega
    have hB0 : Below w.heap.size w w := Below.refl _ _
    have hbb : (ok != ok) = false := by simp
    go_wp2_with fail
    refine (toNodeS_any w B A1 n1 c1 l1 (Nat.le_trans hB hB0.size) (hl1.below (hB0.mono hB)) hm1).mono ?_
    rintro e w1 ⟨rfl, hb1, p_w1⟩
    have hz1 : w.heap.size + 1 ≤ w1.heap.size := p_w1.lt
    have hB1 : Below w.heap.size w w1 := hB0.trans (hb1.mono hB0.size)
    have s1 := hb1.size
    clear hb1
    go_wp2_with fail
    refine (toIntS_any w1 B A2 n2 c2 l2 (Nat.le_trans hB hB1.size) (hl2.below (hB1.mono hB)) hm2).mono ?_
    rintro e w2 ⟨rfl, hb2, q_w2⟩
    have hz2 : w1.heap.size + 1 ≤ w2.heap.size := iown_lt q_w2
    have hB2 : Below w.heap.size w w2 := hB1.trans (hb2.mono hB1.size)
    have s2 := hb2.size
    have p_w2 := p_w1.below hb2 (by omega)
    clear p_w1
    clear hb2
    go_wp2_with fail
    refine (hspec w2 w2.heap.size (some ⟨w.heap.size, 0, none⟩) n1 w2.heap.size (some ⟨w1.heap.size, 0, none⟩) n2 (Nat.le_refl _) (p_w2.reads.more (by omega)) (Nat.le_refl _) (q_w2.reads.more (by omega))).mono ?_
    rintro e w3 ⟨Aw, cw, Av, cv, rfl, w_w3, v_w3, hb3⟩
    have hB3 : Below w.heap.size w w3 := hB2.trans (hb3.mono hB2.size)
    have s3 := hb3.size
    have p_w3 := p_w2.below hb3 (by omega)
    clear p_w2
    have q_w3 := iown_below q_w2 hb3 (by omega)
    clear q_w2
    clear hb3
    have iw : InR (.slice Aw NN.length cw) w2.heap.size w3.heap.size := own_in w_w3
    have iv : InR (.slice Av II.length cv) w2.heap.size w3.heap.size := own_in v_w3
    clear p_w3
    clear q_w3
    go_wp2_with fail
    refine (toNodeS_any w3 B A1 n1 c1 l1 (Nat.le_trans hB hB3.size) (hl1.below (hB3.mono hB)) hm1).mono ?_
    rintro e w4 ⟨rfl, hb4, x_w4⟩
    have hz4 : w3.heap.size + 1 ≤ w4.heap.size := x_w4.lt
    have hB4 : Below w.heap.size w w4 := hB3.trans (hb4.mono hB3.size)
    have s4 := hb4.size
    have w_w4 := own_below' w_w3 hb4
    clear w_w3
    have v_w4 := own_below' v_w3 hb4
    clear v_w3
    clear hb4
    go_wp2_with fail
    refine (toIntS_any w4 B A2 n2 c2 l2 (Nat.le_trans hB hB4.size) (hl2.below (hB4.mono hB)) hm2).mono ?_
    rintro e w5 ⟨rfl, hb5, y_w5⟩
    have hz5 : w4.heap.size + 1 ≤ w5.heap.size := iown_lt y_w5
    have hB5 : Below w.heap.size w w5 := hB4.trans (hb5.mono hB4.size)
    have s5 := hb5.size
    have w_w5 := own_below' w_w4 hb5
    clear w_w4
    have v_w5 := own_below' v_w4 hb5
    clear v_w4
    have x_w5 := x_w4.below hb5 (by omega)
    clear x_w4
    clear hb5
    go_wp2_with fail
    refine (himpl w5 w5.heap.size (some ⟨w3.heap.size, 0, none⟩) n1 w5.heap.size (some ⟨w4.heap.size, 0, none⟩) n2 (Nat.le_refl _) (x_w5.reads.more (by omega)) (Nat.le_refl _) (y_w5.reads.more (by omega))).mono ?_
    rintro e w6 ⟨Ag, cg, Ah, ch, rfl, g_w6, h_w6, hb6⟩
    have hB6 : Below w.heap.size w w6 := hB5.trans (hb6.mono hB5.size)
    have s6 := hb6.size
    have w_w6 := own_below' w_w5 hb6
    clear w_w5
    have v_w6 := own_below' v_w5 hb6
    clear v_w5
    have x_w6 := x_w5.below hb6 (by omega)
    clear x_w5
    have y_w6 := iown_below y_w5 hb6 (by omega)
    clear y_w5
    clear hb6
    have ig : InR (.slice Ag NN.length cg) w5.heap.size w6.heap.size := own_in g_w6
    have ih : InR (.slice Ah II.length ch) w5.heap.size w6.heap.size := own_in h_w6
    have apg := rows_apart h_w6 g_w6 (by decide)
    have apg' := rows_apart g_w6 h_w6 (by decide)
    go_wp2_with fail
    refine (eqNodeS_any w6 w6.heap.size _ _ _ _ _ _ _ _ (Nat.le_refl _) (OwnN.reads g_w6) (OwnN.reads w_w6) (by omega) (by omega)).mono ?_
    rintro e w7 ⟨rfl, hb7⟩
    rw [decide_eq_true rfl]
    have hB7 : Below w.heap.size w w7 := hB6.trans (hb7.mono hB6.size)
    have s7 := hb7.size
    have w_w7 := own_below' w_w6 hb7
    clear w_w6
    have v_w7 := own_below' v_w6 hb7
    clear v_w6
    have g_w7 := own_below' g_w6 hb7
    clear g_w6
    have h_w7 := own_below' h_w6 hb7
    clear h_w6
    have x_w7 := x_w6.below hb7 (by omega)
    clear x_w6
    have y_w7 := iown_below y_w6 hb7 (by omega)
    clear y_w6
    clear hb7
    go_wp2_with fail
    refine (eqIntS_any w7 w7.heap.size _ _ _ _ _ _ _ _ (Nat.le_refl _) (OwnI.reads h_w7) (OwnI.reads v_w7) (by omega) (by omega)).mono ?_
    rintro e w8 ⟨rfl, hb8⟩
    rw [decide_eq_true rfl]
    have hB8 : Below w.heap.size w w8 := hB7.trans (hb8.mono hB7.size)
    have s8 := hb8.size
    have w_w8 := own_below' w_w7 hb8
    clear w_w7
    have v_w8 := own_below' v_w7 hb8
    clear v_w7
    have g_w8 := own_below' g_w7 hb8
    clear g_w7
    have h_w8 := own_below' h_w7 hb8
    clear h_w7
    have x_w8 := x_w7.below hb8 (by omega)
    clear x_w7
    have y_w8 := iown_below y_w7 hb8 (by omega)
    clear y_w7
    clear hb8
    go_wp2_with fail
    refine (toNodeS_any w8 B A1 n1 c1 l1 (Nat.le_trans hB hB8.size) (hl1.below (hB8.mono hB)) hm1).mono ?_
    rintro e w9 ⟨rfl, hb9, z_w9⟩
    have hz9 : w8.heap.size + 1 ≤ w9.heap.size := z_w9.lt
    have hB9 : Below w.heap.size w w9 := hB8.trans (hb9.mono hB8.size)
    have s9 := hb9.size
    have w_w9 := own_below' w_w8 hb9
    clear w_w8
    have v_w9 := own_below' v_w8 hb9
    clear v_w8
    have g_w9 := own_below' g_w8 hb9
    clear g_w8
    have h_w9 := own_below' h_w8 hb9
    clear h_w8
    have x_w9 := x_w8.below hb9 (by omega)
    clear x_w8
    have y_w9 := iown_below y_w8 hb9 (by omega)
    clear y_w8
    clear hb9
    go_wp2_with fail
    refine (eqNodeS_any w9 w9.heap.size _ _ n1 n1 n1 n1 l1 l1 (Nat.le_refl _) (x_w9.reads.more (by omega)) (z_w9.reads.more (by omega)) (by omega) (by omega)).mono ?_
    rintro e w10 ⟨rfl, hb10⟩
    rw [decide_eq_true rfl]
    have hB10 : Below w.heap.size w w10 := hB9.trans (hb10.mono hB9.size)
    have s10 := hb10.size
    have w_w10 := own_below' w_w9 hb10
    clear w_w9
    have v_w10 := own_below' v_w9 hb10
    clear v_w9
    have g_w10 := own_below' g_w9 hb10
    clear g_w9
    have h_w10 := own_below' h_w9 hb10
    clear h_w9
    have x_w10 := x_w9.below hb10 (by omega)
    clear x_w9
    have y_w10 := iown_below y_w9 hb10 (by omega)
    clear y_w9
    have z_w10 := z_w9.below hb10 (by omega)
    clear z_w9
    clear hb10
    clear z_w10
    go_wp2_with fail
    refine (toIntS_any w10 B A2 n2 c2 l2 (Nat.le_trans hB hB10.size) (hl2.below (hB10.mono hB)) hm2).mono ?_
    rintro e w11 ⟨rfl, hb11, z_w11⟩
    have hz11 : w10.heap.size + 1 ≤ w11.heap.size := iown_lt z_w11
    have hB11 : Below w.heap.size w w11 := hB10.trans (hb11.mono hB10.size)
    have s11 := hb11.size
    have w_w11 := own_below' w_w10 hb11
    clear w_w10
    have v_w11 := own_below' v_w10 hb11
    clear v_w10
    have g_w11 := own_below' g_w10 hb11
    clear g_w10
    have h_w11 := own_below' h_w10 hb11
    clear h_w10
    have x_w11 := x_w10.below hb11 (by omega)
    clear x_w10
    have y_w11 := iown_below y_w10 hb11 (by omega)
    clear y_w10
    clear hb11
    go_wp2_with fail
    refine (eqIntS_any w11 w11.heap.size _ _ n2 n2 n2 n2 l2 l2 (Nat.le_refl _) (y_w11.reads.more (by omega)) (z_w11.reads.more (by omega)) (by omega) (by omega)).mono ?_
    rintro e w12 ⟨rfl, hb12⟩
    rw [decide_eq_true rfl]
    have hB12 : Below w.heap.size w w12 := hB11.trans (hb12.mono hB11.size)
    have s12 := hb12.size
    have w_w12 := own_below' w_w11 hb12
    clear w_w11
    have v_w12 := own_below' v_w11 hb12
    clear v_w11
    have g_w12 := own_below' g_w11 hb12
    clear g_w11
    have h_w12 := own_below' h_w11 hb12
    clear h_w11
    have x_w12 := x_w11.below hb12 (by omega)
    clear x_w11
    have y_w12 := iown_below y_w11 hb12 (by omega)
    clear y_w11
    have z_w12 := iown_below z_w11 hb12 (by omega)
    clear z_w11
    clear hb12
    clear z_w12
    have hx := x_w12.owns hm1
    have ix : InR (.slice (some ⟨w3.heap.size, 0, none⟩) n1 n1) w3.heap.size (w3.heap.size + 1) := fun k hk => by have h' : w3.heap.size = k := (by simpa [Value.ownBlock] using hk); omega
    clear x_w12
    go_wp2_with fail
    refine (markNodeS_any w12 _ _ n1 n1 _ hx (1) (by omega) (by omega)).mono ?_
    rintro e w13 ⟨rfl, hk13⟩
    have hB13 : Below w.heap.size w w13 := markBelow hB12 hk13 ix (by omega) hB12.size
    have w_w13 := markKept w_w12 hk13 ix iw (by omega)
    clear w_w12
    have v_w13 := markKept v_w12 hk13 ix iv (by omega)
    clear v_w12
    have g_w13 := markKept g_w12 hk13 ix ig (by omega)
    clear g_w12
    have h_w13 := markKept h_w12 hk13 ix ih (by omega)
    clear h_w12
    have y_w13 := iown_mark y_w12 hk13 ix (by omega)
    clear y_w12
    have s13 : w12.heap.size ≤ w13.heap.size := by rw [hk13.2.1]; exact Nat.le_refl _
    clear hk13 hx ix
    have hx := iown_owns y_w13 hm2
    have ix : InR (.slice (some ⟨w4.heap.size, 0, none⟩) n2 n2) w4.heap.size (w4.heap.size + 1) := fun k hk => by have h' : w4.heap.size = k := (by simpa [Value.ownBlock] using hk); omega
    clear y_w13
    go_wp2_with fail
    refine (markIntS_big w13 _ _ n2 n2 _ hx (1 + n1 * 4) (by omega) (by omega)).mono ?_
    rintro e w14 ⟨rfl, hk14⟩
    have hB14 : Below w.heap.size w w14 := markBelow hB13 hk14 ix (by omega) hB13.size
    have w_w14 := markKept w_w13 hk14 ix iw (by omega)
    clear w_w13
    have v_w14 := markKept v_w13 hk14 ix iv (by omega)
    clear v_w13
    have g_w14 := markKept g_w13 hk14 ix ig (by omega)
    clear g_w13
    have h_w14 := markKept h_w13 hk14 ix ih (by omega)
    clear h_w13
    have s14 : w13.heap.size ≤ w14.heap.size := by rw [hk14.2.1]; exact Nat.le_refl _
    clear hk14 hx ix
    have hkk : ¬ (((1 + n1 * 4 + n2 : Nat) : Int) < 0) := by omega
    go_wp2_with fail
    refine (eqNodeS_any w14 w14.heap.size _ _ _ _ _ _ _ _ (Nat.le_refl _) (OwnN.reads g_w14) (OwnN.reads w_w14) (by omega) (by omega)).mono ?_
    rintro e w15 ⟨rfl, hb15⟩
    rw [decide_eq_true rfl]
    have hB15 : Below w.heap.size w w15 := hB14.trans (hb15.mono hB14.size)
    have s15 := hb15.size
    have w_w15 := own_below' w_w14 hb15
    clear w_w14
    have v_w15 := own_below' v_w14 hb15
    clear v_w14
    have g_w15 := own_below' g_w14 hb15
    clear g_w14
    have h_w15 := own_below' h_w14 hb15
    clear h_w14
    clear hb15
    go_wp2_with fail
    refine (eqIntS_any w15 w15.heap.size _ _ _ _ _ _ _ _ (Nat.le_refl _) (OwnI.reads h_w15) (OwnI.reads v_w15) (by omega) (by omega)).mono ?_
    rintro e w16 ⟨rfl, hb16⟩
    rw [decide_eq_true rfl]
    have hB16 : Below w.heap.size w w16 := hB15.trans (hb16.mono hB15.size)
    have s16 := hb16.size
    have w_w16 := own_below' w_w15 hb16
    clear w_w15
    have v_w16 := own_below' v_w15 hb16
    clear v_w15
    have g_w16 := own_below' g_w15 hb16
    clear g_w15
    have h_w16 := own_below' h_w15 hb16
    clear h_w15
    clear hb16
    go_wp2_with fail
    refine (markNodeS_any w16 _ _ _ _ _ g_w16 (1) (by omega) (by omega)).mono ?_
    rintro e w17 ⟨rfl, hk17⟩
    have hB17 : Below w.heap.size w w17 := markBelow hB16 hk17 ig (by omega) hB16.size
    have w_w17 := markKept w_w16 hk17 ig iw (by omega)
    clear w_w16
    have v_w17 := markKept v_w16 hk17 ig iv (by omega)
    clear v_w16
    have g_w17 := hk17.2.2
    clear g_w16
    have h_w17 := h_w16.kept hk17.1 apg
    clear h_w16
    have s17 : w16.heap.size ≤ w17.heap.size := by rw [hk17.2.1]; exact Nat.le_refl _
    clear hk17
    go_wp2_with fail
    refine (markIntS_any w17 _ _ _ _ _ h_w17 (1 + NN.length * 4) (by omega) (by omega)).mono ?_
    rintro e w18 ⟨rfl, hk18⟩
    have hB18 : Below w.heap.size w w18 := markBelow hB17 hk18 ih (by omega) hB17.size
    have w_w18 := markKept w_w17 hk18 ih iw (by omega)
    clear w_w17
    have v_w18 := markKept v_w17 hk18 ih iv (by omega)
    clear v_w17
    have g_w18 := g_w17.kept hk18.1 apg'
    clear g_w17
    have h_w18 := hk18.2.2
    clear h_w17
    have s18 : w17.heap.size ≤ w18.heap.size := by rw [hk18.2.1]; exact Nat.le_refl _
    clear hk18
    have hq1 : ¬ (((1 + NN.length * 4 : Nat) : Int) < 0) := by omega
    go_wp2_with fail
    refine (heldNodeS_any w18 _ _ _ _ (1) g_w18 (by omega) (by omega)).mono ?_
    rintro e w' ⟨rfl, rfl⟩
    have hq2 : ¬ (((1 + NN.length * 4 + II.length : Nat) : Int) < 0) := by omega
    have hq3 : (((1 + NN.length * 4 + II.length : Nat) : Int) != ((1 + NN.length * 4 + II.length : Nat) : Int)) = false := by simp
    go_wp2_with fail
    refine (heldIntS_any w18 _ _ _ _ (1 + NN.length * 4) h_w18 (by omega) (by omega)).mono ?_
    rintro e w' ⟨rfl, rfl⟩
    go_wp2_with fail
    refine (toNodeS_any w18 B A1 n1 c1 l1 (Nat.le_trans hB hB18.size) (hl1.below (hB18.mono hB)) hm1).mono ?_
    rintro e w19 ⟨rfl, hb19, x_w19⟩
    have hz19 : w18.heap.size + 1 ≤ w19.heap.size := x_w19.lt
    have hB19 : Below w.heap.size w w19 := hB18.trans (hb19.mono hB18.size)
    have s19 := hb19.size
    have w_w19 := own_below' w_w18 hb19
    clear w_w18
    have v_w19 := own_below' v_w18 hb19
    clear v_w18
    have g_w19 := own_below' g_w18 hb19
    clear g_w18
    have h_w19 := own_below' h_w18 hb19
    clear h_w18
    clear hb19
    go_wp2_with fail
    refine (toIntS_any w19 B A2 n2 c2 l2 (Nat.le_trans hB hB19.size) (hl2.below (hB19.mono hB)) hm2).mono ?_
    rintro e w20 ⟨rfl, hb20, y_w20⟩
    have hz20 : w19.heap.size + 1 ≤ w20.heap.size := iown_lt y_w20
    have hB20 : Below w.heap.size w w20 := hB19.trans (hb20.mono hB19.size)
    have s20 := hb20.size
    have w_w20 := own_below' w_w19 hb20
    clear w_w19
    have v_w20 := own_below' v_w19 hb20
    clear v_w19
    have g_w20 := own_below' g_w19 hb20
    clear g_w19
    have h_w20 := own_below' h_w19 hb20
    clear h_w19
    have x_w20 := x_w19.below hb20 (by omega)
    clear x_w19
    clear hb20
    go_wp2_with fail
    refine (himpl w20 w20.heap.size (some ⟨w18.heap.size, 0, none⟩) n1 w20.heap.size (some ⟨w19.heap.size, 0, none⟩) n2 (Nat.le_refl _) (x_w20.reads.more (by omega)) (Nat.le_refl _) (y_w20.reads.more (by omega))).mono ?_
    rintro e w21 ⟨Ar, cr, At, ct, rfl, r_w21, t_w21, hb21⟩
    have hB21 : Below w.heap.size w w21 := hB20.trans (hb21.mono hB20.size)
    have s21 := hb21.size
    have w_w21 := own_below' w_w20 hb21
    clear w_w20
    have v_w21 := own_below' v_w20 hb21
    clear v_w20
    have g_w21 := own_below' g_w20 hb21
    clear g_w20
    have h_w21 := own_below' h_w20 hb21
    clear h_w20
    have x_w21 := x_w20.below hb21 (by omega)
    clear x_w20
    have y_w21 := iown_below y_w20 hb21 (by omega)
    clear y_w20
    clear hb21
    have ir : InR (.slice Ar NN.length cr) w20.heap.size w21.heap.size := own_in r_w21
    have it : InR (.slice At II.length ct) w20.heap.size w21.heap.size := own_in t_w21
    clear x_w21
    clear y_w21
    go_wp2_with fail
    refine (eqNodeS_any w21 w21.heap.size _ _ _ _ _ _ _ _ (Nat.le_refl _) (OwnN.reads r_w21) (OwnN.reads w_w21) (by omega) (by omega)).mono ?_
    rintro e w22 ⟨rfl, hb22⟩
    rw [decide_eq_true rfl]
    have hB22 : Below w.heap.size w w22 := hB21.trans (hb22.mono hB21.size)
    have s22 := hb22.size
    have w_w22 := own_below' w_w21 hb22
    clear w_w21
    have v_w22 := own_below' v_w21 hb22
    clear v_w21
    have g_w22 := own_below' g_w21 hb22
    clear g_w21
    have h_w22 := own_below' h_w21 hb22
    clear h_w21
    have r_w22 := own_below' r_w21 hb22
    clear r_w21
    have t_w22 := own_below' t_w21 hb22
    clear t_w21
    clear hb22
    go_wp2_with fail
    refine (eqIntS_any w22 w22.heap.size _ _ _ _ _ _ _ _ (Nat.le_refl _) (OwnI.reads t_w22) (OwnI.reads v_w22) (by omega) (by omega)).mono ?_
    rintro e w23 ⟨rfl, hb23⟩
    rw [decide_eq_true rfl]
    have hB23 : Below w.heap.size w w23 := hB22.trans (hb23.mono hB22.size)
    have s23 := hb23.size
    have w_w23 := own_below' w_w22 hb23
    clear w_w22
    have v_w23 := own_below' v_w22 hb23
    clear v_w22
    have g_w23 := own_below' g_w22 hb23
    clear g_w22
    have h_w23 := own_below' h_w22 hb23
    clear h_w22
    have r_w23 := own_below' r_w22 hb23
    clear r_w22
    have t_w23 := own_below' t_w22 hb23
    clear t_w22
    clear hb23
    clear w_w23
    clear v_w23
    clear r_w23
    clear t_w23
    go_wp2_with fail
    refine (heldNodeS_any w23 _ _ _ _ (1) g_w23 (by omega) (by omega)).mono ?_
    rintro e w' ⟨rfl, rfl⟩
    go_wp2_with fail
    refine (heldIntS_any w23 _ _ _ _ (1 + NN.length * 4) h_w23 (by omega) (by omega)).mono ?_
    rintro e w' ⟨rfl, rfl⟩
    go_wp2
    go_ret
    exact ⟨rfl, hB23⟩
end Go.Proofs.Ytfmhmnpmdjpmeaa
