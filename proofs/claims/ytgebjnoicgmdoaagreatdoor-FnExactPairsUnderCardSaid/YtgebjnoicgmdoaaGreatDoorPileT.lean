/- The model's residual of right atoms. -/
/- A pile of rows of tokens, each in a block of its own. -/
import Derived.Test.YtgebjnoicgmdoaaGreatDoorOwnO
import Derived.Test.YtgebjnoicgmdoaaGreatDoorNOf
import Derived.Test.YtgebjnoicgmdoaaGreatDoorMeth
import Derived.Test.YtgebjnoicgmdoaaGreatDoorNOk1
import Derived.Test.YtgebjnoicgmdoaaGreatDoorNMap

namespace Go.Proofs.YtgebjnoicgmdoaaGreatDoor
open Go.RowKit

namespace Nm
/-- the greatest Off of a param -/
def topPar : List At → Int
  | [] => -1
  | a :: r => if 0 ≤ a.1 then max a.2 (topPar r) else topPar r
theorem topPar_ge (l : List At) : -1 ≤ topPar l := by
  induction l with
  | nil => simp [topPar]
  | cons a r ih => unfold topPar; split <;> omega
theorem topPar_append (a b : List At) : topPar (a ++ b) = max (topPar a) (topPar b) := by
  induction a with
  | nil => have := topPar_ge b; simp [topPar]; omega
  | cons x r ih => simp only [List.cons_append, topPar]; rw [ih]; split <;> omega
theorem topPar_take (l : List At) (k : Nat) (hk : k < l.length) : topPar (l.take (k + 1)) = if 0 ≤ (l.getD k (0, 0)).1 then max (topPar (l.take k)) (l.getD k (0, 0)).2 else topPar (l.take k) := by
  rw [List.take_succ_eq_append_getElem hk, topPar_append, List.getD_eq_getElem?_getD, List.getElem?_eq_getElem hk]
  have := topPar_ge (l.take k)
  simp only [topPar, Option.getD_some]
  split <;> omega
theorem topPar_mem {l : List At} {a : At} (h : a ∈ l) (h0 : 0 ≤ a.1) : a.2 ≤ topPar l := by
  induction l with
  | nil => simp at h
  | cons b r ih =>
    unfold topPar
    rcases List.mem_cons.1 h with rfl | h
    · rw [if_pos h0]; omega
    · have := ih h; split <;> omega
theorem topPar_at {l : List At} (h : topPar l ≠ -1) : ∃ a ∈ l, 0 ≤ a.1 ∧ a.2 = topPar l := by
  induction l with
  | nil => simp [topPar] at h
  | cons b r ih =>
    unfold topPar at h ⊢
    by_cases hb : 0 ≤ b.1
    · rw [if_pos hb] at h ⊢
      by_cases hm : topPar r ≤ b.2
      · exact ⟨b, by simp, hb, by omega⟩
      · obtain ⟨a, ha, h0, h1⟩ := ih (by omega)
        exact ⟨a, List.mem_cons_of_mem _ ha, h0, by omega⟩
    · rw [if_neg hb] at h ⊢
      obtain ⟨a, ha, h0, h1⟩ := ih h
      exact ⟨a, List.mem_cons_of_mem _ ha, h0, h1⟩
theorem topPar_norm (l : List At) : topPar (norm l) = most l 5 := by
  have g1 := topPar_ge (norm l)
  have g2 := most_ge l 5
  have h1 : topPar (norm l) ≤ most l 5 := by
    by_cases e : topPar (norm l) = -1
    · omega
    · obtain ⟨a, ha, h0, h1⟩ := topPar_at e
      obtain ⟨_, q2, _, q4⟩ := mem_norm.1 ha
      have := most_le l 5 a.1 h0 (by simpa using q2)
      omega
  have h2 : most l 5 ≤ topPar (norm l) := by
    by_cases e : most l 5 = -1
    · omega
    · obtain ⟨q, q1, q2, q3⟩ := most_at l 5 e
      have hm : (q, best q l) ∈ norm l := mem_norm.2 ⟨by simp; omega, by simpa using q2, by simp [keepB, show q ≠ -1 by omega]; omega, rfl⟩
      have := topPar_mem hm q1
      simp only at this
      omega
  omega
theorem map_take_succ (s : Int) (l : List At) (k : Nat) (hk : k < l.length) : (l.take (k + 1)).map (pl s) = (l.take k).map (pl s) ++ [pl s (l.getD k (0, 0))] := by
  rw [List.take_succ_eq_append_getElem hk, List.map_append, List.getD_eq_getElem?_getD, List.getElem?_eq_getElem hk]
  rfl
end Nm

theorem newsR (X : World) (o : Obj) (p x : Int) : ∀ j u, [Value.int .i64 p, .int .i64 x][j]? = some u → ((X.alloc o).alloc (.cells #[.int .i64 p, .int .i64 x] 92)).cell? ((⟨X.heap.size + 1, 0, none⟩ : Addr).add j) = some u := by
  have h := World.news_of_block (w := (X.alloc o).alloc (.cells #[.int .i64 p, .int .i64 x] 92)) (cs := #[.int .i64 p, .int .i64 x]) (t := 92) (fr := (0, 0)) (heap_alloc_new (X.alloc o) _)
  simpa using h

theorem own_formR {w : World} {base : Nat} {e : TypeId} {size n : Nat} {v : Value} {xs : List Value} (h : w.ownsRow base e size v n xs) (hn : 0 < n) : ∃ g c, v = .slice (some ⟨g, 0, none⟩) n c := by
  rcases h.2 with ⟨_, h0⟩ | ⟨g', cap', _, h0, _⟩
  · omega
  · exact ⟨g', cap', h0⟩
theorem own_capR {w : World} {base g n c : Nat} {e : TypeId} {size : Nat} {xs : List Value} (h : w.ownsRow base e size (.slice (some ⟨g, 0, none⟩) n c) n xs) : n ≤ c := by
  rcases h.2 with ⟨h0, _⟩ | ⟨_, _, _, hv, _, _, h6, _⟩
  · cases h0
  · injection hv with _ _ e3; subst e3; exact h6
set_option maxRecDepth 100000 in
theorem run_tail2 (g n c : Nat) (hn : 2 ≤ n) (hnc : n ≤ c) : ∀ wx : World, (Instr.slice 138 (.slice (some ⟨g, 0, none⟩) n c) (some (.int .i64 1)) none none).run Tryz.prog wx = .ok (.slice (some ⟨g, 2, none⟩) (n - 1) (c - 1)) wx := by
  intro wx
  have hr := run_slice_l (P := Tryz.prog) (w := wx) 138 (some ⟨g, 0, none⟩) n c Tryz.underlying138 .i64 1 (by omega) (by omega)
  have hs : (sizeOf (Tryz.prog.elem 138)).run Tryz.prog wx = .ok 2 wx := by kernel_rfl
  rw [hs] at hr
  simpa [Result.andThen, sliced, show c ≠ 1 by omega, Addr.add] using hr

/-- a row of atoms of the call's own is what is given back -/
def ResAO (w : World) (l : List (Int × Int)) (e : Ending) (w' : World) : Prop :=
  ∃ A c, e = .returned (.slice A l.length c) ∧ OwnO w' w.heap.size A l.length c (tokCells l) ∧ Below w.heap.size w w'

set_option maxRecDepth 100000 in
set_option maxHeartbeats 3200000 in
theorem l03Resid_any (w : World) (B : Nat) (A : Option Addr) (n c : Nat) (l : List (Int × Int)) (s : Int) (hB : B ≤ w.heap.size) (hl : TokR w B A n l) (hn : n ≤ 1000) (h1 : 1 ≤ n) (hok : Nm.AllOk l) :
    Calls Tryz.prog 131 #[.slice A n c, .int .i64 s] w (ResAO w (Nm.resid s l)) := by
  obtain ⟨i0, hi, hz0, hz1, hz2⟩ := info_parts info_atom
  have HO0 : Hid (OwnA (w.alloc (.cells #[] 92)) w.heap.size (some ⟨w.heap.size, 0, none⟩) 0 0 []) := World.ownsRow_made w #[] 0 (Nat.le_refl _) (by simp [maxLen]) (by simp)
  have HB0 : Hid (Below w.heap.size w (w.alloc (.cells #[] 92))) := (Below.refl _ _).alloc (Nat.le_refl _) _
  have HOK := Lib.hid hok
  clear hok
  go_enter Tryz.func131, Tryz.ntmps131
  go_wp2
  go_loopw [5, 6] (fun v i wr => ∃ (k g cap : Nat), k ≤ n ∧ i = .int .i64 k ∧ v = .slice (some ⟨g, 0, none⟩) k cap ∧ OwnA wr w.heap.size (some ⟨g, 0, none⟩) k cap ((l.take k).map (Nm.pl s)) ∧ Below w.heap.size w wr) (fun _ i _ => n - (intOf i).toNat)
  case atStart => exact ⟨0, w.heap.size, 0, Nat.zero_le _, rfl, rfl, HO0.out, HB0.out⟩
  case round =>
    obtain ⟨k, g, cap, hk, rfl, rfl, hown, hbel⟩ := hrel
    have hszr := hbel.size
    by_cases hlt : k < n
    · have HU := Lib.hid (Nm.map_take_succ s l k (by rw [hl.1]; exact hlt))
      obtain ⟨b, off, rfl, hb, hc⟩ := hl.2 (by omega)
      obtain ⟨e1, e2⟩ := hc k hlt
      have HL := Lib.hid hl
      generalize (l.take k).map (Nm.pl s) = a at hown HU
      generalize l.getD k (0, 0) = t at e1 e2 HU
      obtain ⟨p, y⟩ := t
      simp only at e1 e2 HU
      have k1 := (hbel.cell (p := ⟨b, off + k * 2, none⟩) (by show b < _; omega)).trans e1
      have k2 := (hbel.cell (p := ⟨b, off + k * 2 + 1, none⟩) (by show b < _; omega)).trans e2
      have hki : (k : Int) < (n : Int) := by omega
      clear e1 e2 hc hl
      have hcase : (p < 0 ∧ Nm.pl s (p, y) = (p, y)) ∨ (0 ≤ p ∧ Sg.has s p = true ∧ Nm.pl s (p, y) = (p, y)) ∨ (0 ≤ p ∧ Sg.has s p = false ∧ Nm.pl s (p, y) = (-1, y)) := by
        unfold Nm.pl
        by_cases hp : 0 ≤ p
        · cases hh : Sg.has s p with
          | true => right; left; exact ⟨hp, rfl, by simp⟩
          | false => right; right; exact ⟨hp, rfl, by simp [hp]⟩
        · left; exact ⟨by omega, by simp [hp]⟩
      rcases hcase with ⟨hp, hpl⟩ | ⟨hp, hh, hpl⟩ | ⟨hp, hh, hpl⟩
      · have HPL := Lib.hid hpl
        clear hpl
        go_wp2_with (at_builtin; refine wpList_append_own _ rfl (.tmp 33) (.tmp 35) 138 rfl w.heap.size 92 i0 (.agg #[.int .i64 0, .int .i64 0]) 2 16 Tryz.underlying138 hi hz0 hz1 hz2 rfl (by decide) (.slice (some ⟨g, 0, none⟩) k cap) k (tokCells a) rfl ((hown.alloc _).alloc _) ⟨wr.heap.size + 1, 0, none⟩ 1 1 [.int .i64 p, .int .i64 y] rfl rfl (newsR _ _ _ _) (by simp [Value.oneCell']) (by unfold maxLen; omega) (by omega) (by simp; omega) ?_; intro v' w3 hown' hgrow hnil)
        obtain ⟨g2, cap2, rfl⟩ := own_formR hown' (by omega)
        have HB1 : Hid (Below w.heap.size w w3) := ((hbel.alloc hszr _).alloc (by simp; omega) _).grown hgrow (by simp; omega) (fun k h => (hown.lt k h).1)
        have HW : Hid (OwnA w3 w.heap.size (some ⟨g2, 0, none⟩) (k + 1) cap2 ((l.take (k + 1)).map (Nm.pl s))) := by
          show OwnA _ _ _ _ _ _
          rw [HU.out, HPL.out]
          unfold OwnA
          rw [tokCells_append]
          exact hown'
        clear hown hown' hgrow hbel hnil
        go_wp2
        go_roundw
        case rel => exact ⟨k + 1, g2, cap2, by omega, by go_num, rfl, HW.out, HB1.out⟩
        case measure => simp [intOf]; omega
      · have HPL := Lib.hid hpl
        clear hpl
        go_wp2_with fail
        refine (specSignHas_any _ s p).mono ?_
        rintro e w1 ⟨rfl, rfl⟩
        rw [hh]
        go_wp2_with (at_builtin; refine wpList_append_own _ rfl (.tmp 33) (.tmp 35) 138 rfl w.heap.size 92 i0 (.agg #[.int .i64 0, .int .i64 0]) 2 16 Tryz.underlying138 hi hz0 hz1 hz2 rfl (by decide) (.slice (some ⟨g, 0, none⟩) k cap) k (tokCells a) rfl ((hown.alloc _).alloc _) ⟨wr.heap.size + 1, 0, none⟩ 1 1 [.int .i64 p, .int .i64 y] rfl rfl (newsR _ _ _ _) (by simp [Value.oneCell']) (by unfold maxLen; omega) (by omega) (by simp; omega) ?_; intro v' w3 hown' hgrow hnil)
        obtain ⟨g2, cap2, rfl⟩ := own_formR hown' (by omega)
        have HB1 : Hid (Below w.heap.size w w3) := ((hbel.alloc hszr _).alloc (by simp; omega) _).grown hgrow (by simp; omega) (fun k h => (hown.lt k h).1)
        have HW : Hid (OwnA w3 w.heap.size (some ⟨g2, 0, none⟩) (k + 1) cap2 ((l.take (k + 1)).map (Nm.pl s))) := by
          show OwnA _ _ _ _ _ _
          rw [HU.out, HPL.out]
          unfold OwnA
          rw [tokCells_append]
          exact hown'
        clear hown hown' hgrow hbel hnil
        go_wp2
        go_roundw
        case rel => exact ⟨k + 1, g2, cap2, by omega, by go_num, rfl, HW.out, HB1.out⟩
        case measure => simp [intOf]; omega
      · have HPL := Lib.hid hpl
        clear hpl
        go_wp2_with fail
        refine (specSignHas_any _ s p).mono ?_
        rintro e w1 ⟨rfl, rfl⟩
        rw [hh]
        go_wp2_with (at_builtin; refine wpList_append_own _ rfl (.tmp 33) (.tmp 35) 138 rfl w.heap.size 92 i0 (.agg #[.int .i64 0, .int .i64 0]) 2 16 Tryz.underlying138 hi hz0 hz1 hz2 rfl (by decide) (.slice (some ⟨g, 0, none⟩) k cap) k (tokCells a) rfl ((hown.alloc _).alloc _) ⟨wr.heap.size + 1, 0, none⟩ 1 1 [.int .i64 (-1), .int .i64 y] rfl rfl (newsR _ _ _ _) (by simp [Value.oneCell']) (by unfold maxLen; omega) (by omega) (by simp; omega) ?_; intro v' w3 hown' hgrow hnil)
        obtain ⟨g2, cap2, rfl⟩ := own_formR hown' (by omega)
        have HB1 : Hid (Below w.heap.size w w3) := ((hbel.alloc hszr _).alloc (by simp; omega) _).grown hgrow (by simp; omega) (fun k h => (hown.lt k h).1)
        have HW : Hid (OwnA w3 w.heap.size (some ⟨g2, 0, none⟩) (k + 1) cap2 ((l.take (k + 1)).map (Nm.pl s))) := by
          show OwnA _ _ _ _ _ _
          rw [HU.out, HPL.out]
          unfold OwnA
          rw [tokCells_append]
          exact hown'
        clear hown hown' hgrow hbel hnil
        go_wp2
        go_roundw
        case rel => exact ⟨k + 1, g2, cap2, by omega, by go_num, rfl, HW.out, HB1.out⟩
        case measure => simp [intOf]; omega
    · obtain rfl : k = n := by omega
      rw [List.take_of_length_le (by have := hl.1; omega)] at hown
      have HLL := Lib.hid hl.1
      obtain ⟨L, hL⟩ : ∃ L, l.map (Nm.pl s) = L := ⟨_, rfl⟩
      have HRS : Hid (Nm.resid s l = Nm.rnorm L) := by unfold Hid Nm.resid; rw [hL]
      have hLo : Nm.AllOk L := by rw [← hL]; exact HOK.out.pl
      have hLn : L ≠ [] := by rw [← hL]; intro e; have := congrArg List.length e; rw [List.length_map, hl.1] at this; simp at this; omega
      rw [hL] at hown
      have hread := hown.reads
      clear hl hL
      go_wp2_with fail
      refine (specNorm_any wr wr.heap.size _ k cap L (Nat.le_refl _) hread (by omega)).mono ?_
      rintro e w2 ⟨g2, cap2, rfl, ho2, hb2⟩
      have HB2 := Lib.hid (hbel.trans (hb2.mono hszr))
      have HO2 := Lib.hid (own_base ho2 hszr)
      have hr2 := OwnA.reads ho2
      have hlen := Nm.norm_len L
      have hne := Nm.norm_ne hLn hLo
      have hNok := (Nm.norm_ok hLn hLo).2.1
      obtain ⟨N, hN⟩ : ∃ N, Nm.norm L = N := ⟨_, rfl⟩
      obtain ⟨M, hM⟩ : ∃ M, N.length = M := ⟨_, rfl⟩
      rw [hN, hM] at hr2 HO2 ⊢
      rw [hN] at hlen hne hNok
      rw [hM] at hlen
      have hM1 : 1 ≤ M := by rw [← hM]; exact List.length_pos_iff.2 hne
      have HNN := Lib.hid hN
      have HMM := Lib.hid hM
      have HNO := Lib.hid hNok
      obtain ⟨b, off, e, hb, hc⟩ := hr2.2 (by omega)
      injection e with e
      injection e with e1 e2
      subst e1; subst e2
      have HC := Lib.hid hc
      clear hc hr2 hNok hne ho2 hb2 hbel hread hown hN hM
      go_wp2
      go_loop [9, 10] (fun v i => ∃ j : Nat, j ≤ M ∧ i = .int .i64 j ∧ v = .int .i64 (Nm.topPar (N.take j))) (fun _ i => M - (intOf i).toNat)
      case atStart => exact ⟨0, Nat.zero_le _, rfl, rfl⟩
      case round =>
        obtain ⟨j, hj, rfl, rfl⟩ := hrel
        by_cases hlt2 : j < M
        · have HTT := Lib.hid (Nm.topPar_take N j (by rw [HMM.out]; exact hlt2))
          obtain ⟨e1, e2⟩ := HC.out j hlt2
          have hat := (Nm.atOk_iff _).1 (HNO.out j (by rw [HMM.out]; exact hlt2))
          have htg := Nm.topPar_ge (N.take j)
          generalize Nm.topPar (N.take j) = tv at HTT htg ⊢
          generalize N.getD j (0, 0) = t at e1 e2 HTT hat
          obtain ⟨p, x⟩ := t
          simp only at e1 e2 HTT hat
          obtain ⟨a1, a2, a3, a4⟩ := hat
          rw [Nat.zero_add] at e1 e2
          have hji : (j : Int) < (M : Int) := by omega
          by_cases hp : 0 ≤ p
          · have HT2 : Hid (Nm.topPar (N.take (j + 1)) = if tv < x then x else tv) := by show _ = _; rw [HTT.out, if_pos hp]; split <;> omega
            go_wp2
            go_round
            case rel => exact ⟨j + 1, by omega, by go_num, by rw [HT2.out]⟩
            case measure => simp [intOf]; omega
          · have HT2 : Hid (Nm.topPar (N.take (j + 1)) = tv) := by show _ = _; rw [HTT.out, if_neg hp]
            go_wp2
            go_round
            case rel => exact ⟨j + 1, by omega, by go_num, by rw [HT2.out]⟩
            case measure => simp [intOf]; omega
        · obtain rfl : j = M := by omega
          have htop : Nm.topPar (N.take j) = Nm.most L 5 := by
            rw [List.take_of_length_le (by rw [HMM.out]; exact Nat.le_refl _), ← HNN.out]
            exact Nm.topPar_norm L
          rw [htop]
          have hmg := Nm.most_ge L 5
          have hml : Nm.most L 5 ≤ 1000 := by
            by_cases e : Nm.most L 5 = -1
            · omega
            · obtain ⟨q, _, _, q3⟩ := Nm.most_at L 5 e
              rw [q3]; exact Nm.best_le q hLo
          obtain ⟨e1, e2⟩ := HC.out 0 (by omega)
          rw [Nat.zero_mul, Nat.add_zero] at e1 e2
          have hi0 : 0 < j := by omega
          rcases Nm.norm_parts L with ⟨hlt3, hnp⟩ | ⟨hlt3, hnp, hrn⟩
          · rw [HNN.out] at hnp
            have hrn := Nm.rnorm_of_norm hlt3
            have hbl := Nm.best_le (-1) hLo
            have hpm := Nm.pars_max (l := L) (Nm.best (-1) L - 1)
            rw [HNN.out] at hrn
            have h00 : N.getD 0 (0, 0) = (-1, Nm.best (-1) L) := by rw [hnp]; rfl
            rw [h00] at e1 e2
            simp only at e1 e2
            generalize Nm.best (-1) L = x at *
            generalize Nm.most L 5 = mv at *
            by_cases hred : 0 ≤ mv ∧ x ≤ mv + 1
            · obtain ⟨hr1, hr2⟩ := hred
              have hne : ¬ (Nm.exceeds (x - 1) (Nm.pars L 5) = true) := by
                rw [Nm.exceeds_iff, Nm.exceeds_mem, hpm]; omega
              rw [if_neg hne] at hrn
              have hdrop : N.drop 1 = Nm.pars L 5 := by rw [hnp]; rfl
              have hln : (Nm.pars L 5).length = j - 1 := by rw [← hdrop, List.length_drop, HMM.out]
              have HRN : Hid (Nm.resid s l = N.drop 1) := by unfold Hid; rw [HRS.out, hrn, hdrop]
              have HTL : Hid ((N.drop 1).length = j - 1) := by unfold Hid; rw [List.length_drop, HMM.out]
              have hpn : 1 ≤ j - 1 := by
                rw [← hln]
                refine List.length_pos_iff.2 (fun e => hne ?_)
                rw [Nm.exceeds_iff, Nm.exceeds_mem, e]; intro a ha; simp at ha
              obtain ⟨jj, rfl⟩ : ∃ jj, j = jj + 1 := ⟨j - 1, by omega⟩
              have HOT := Lib.hid (OwnO.tail HO2.out)
              have hsl := run_tail2 g2 (jj + 1) cap2 (by omega) (own_capR HO2.out)
              have hmi : ((mv : Int) + 1) = mv + 1 := rfl
              clear hne hrn hdrop hln hpm hnp h00 htop hmi
              simp only [Nat.add_sub_cancel] at hsl HTL
              go_wp2
              go_ret
              rw [HRN.out]
              exact ⟨_, _, by rw [HTL.out]; rfl, by rw [HTL.out]; exact HOT.out, HB2.out⟩
            · have hex : Nm.exceeds (x - 1) (Nm.pars L 5) = true := by
                rw [Nm.exceeds_iff, Nm.exceeds_mem, hpm]; omega
              rw [if_pos hex] at hrn
              have HRN : Hid (Nm.resid s l = N) := by unfold Hid; rw [HRS.out, hrn]
              have hor : mv < 0 ∨ 0 ≤ mv ∧ mv + 1 < x := by omega
              clear hex hrn hpm hnp h00 htop hred
              rcases hor with hm0 | ⟨hm0, hm1⟩
              · go_wp2
                go_ret
                rw [HRN.out]
                exact ⟨_, _, by rw [HMM.out]; rfl, by rw [HMM.out]; exact OwnO.of HO2.out, HB2.out⟩
              · go_wp2
                go_ret
                rw [HRN.out]
                exact ⟨_, _, by rw [HMM.out]; rfl, by rw [HMM.out]; exact OwnO.of HO2.out, HB2.out⟩
          · have HRN : Hid (Nm.resid s l = N) := by unfold Hid; rw [HRS.out, hrn, ← HNN.out, hnp]
            have hp0 : 0 ≤ (N.getD 0 (0, 0)).1 := by
              rw [HNN.out] at hnp
              have hmem := Nm.mem_getD (l := N) (k := 0) (by rw [HMM.out]; omega)
              rw [hnp] at hmem ⊢
              exact (Nm.pars_mem.1 hmem).1
            generalize N.getD 0 (0, 0) = t at e1 e2 hp0
            obtain ⟨p, x⟩ := t
            simp only at e1 e2 hp0
            have dp : (p == -1) = false := by simp; omega
            clear hrn hnp htop
            generalize Nm.most L 5 = mv at *
            go_wp2
            go_ret
            rw [HRN.out]
            exact ⟨_, _, by rw [HMM.out]; rfl, by rw [HMM.out]; exact OwnO.of HO2.out, HB2.out⟩
end Go.Proofs.YtgebjnoicgmdoaaGreatDoor

namespace Go.Proofs.YtgebjnoicgmdoaaGreatDoor
open Go.RowKit

theorem info_toks : (Tryz.prog.info? 25).map (fun i => (i.zero, i.size, i.bytes)) = some (some (.slice none 0 0), 1, 24) := by kernel_rfl
/-- a pile of rows of tokens, its bottom first -/
def PileT (w : World) (base : Nat) (v : Value) (D : Nat) (bs : List (List (Int × Int))) (vals : List Value) (G C : Nat → Nat) : Prop :=
  bs.length = D ∧ w.ownsRow base 25 1 v D vals ∧ (∀ i j, i < D → j < D → i ≠ j → G i ≠ G j) ∧
    ∀ i, i < D → vals[i]? = some (Value.slice (some ⟨G i, 0, none⟩) (bs.getD i []).length (C i)) ∧ OwnT w base (some ⟨G i, 0, none⟩) (bs.getD i []).length (C i) (bs.getD i [])
section
variable {w w' : World} {base D g c : Nat} {v : Value} {bs : List (List (Int × Int))} {vals : List Value} {G C : Nat → Nat}
theorem PileT.below (h : PileT w base v D bs vals G C) (hb : Below w.heap.size w w') : PileT w' base v D bs vals G C :=
  ⟨h.1, own_below' h.2.1 hb, h.2.2.1, fun i hi => ⟨(h.2.2.2 i hi).1, own_below' (h.2.2.2 i hi).2 hb⟩⟩
theorem PileT.lt (h : PileT w base v D bs vals G C) {i : Nat} (hi : i < D) : base ≤ G i ∧ G i < w.heap.size := (h.2.2.2 i hi).2.lt (G i) rfl
theorem PileT.take (h : PileT w base (.slice (some ⟨g, 0, none⟩) D c) D bs vals G C) {m : Nat} (hm : m ≤ D) : PileT w base (.slice (some ⟨g, 0, none⟩) m c) m (bs.take m) (vals.take m) G C := by
  refine ⟨by rw [List.length_take, h.1]; omega, own_take h.2.1 hm, fun i j hi hj => h.2.2.1 i j (by omega) (by omega), fun i hi => ?_⟩
  have h1 := h.2.2.2 i (by omega)
  have e : (bs.take m).getD i [] = bs.getD i [] := by rw [List.getD_eq_getElem?_getD, List.getElem?_take_of_lt hi, ← List.getD_eq_getElem?_getD]
  rw [e]
  exact ⟨by rw [List.getElem?_take_of_lt hi]; exact h1.1, h1.2⟩
theorem PileT.push {x : List (Int × Int)} {gx cx : Nat} {v' : Value} (h : PileT w base v D bs vals G C) (ho : OwnT w base (some ⟨gx, 0, none⟩) x.length cx x) (hne : ∀ i, i < D → G i ≠ gx)
    (hg : w.grownBy w' v.ownBlock) (hown : w'.ownsRow base 25 1 v' (D + 1) (vals ++ [Value.slice (some ⟨gx, 0, none⟩) x.length cx])) :
    PileT w' base v' (D + 1) (bs ++ [x]) (vals ++ [Value.slice (some ⟨gx, 0, none⟩) x.length cx]) (fun i => if i = D then gx else G i) (fun i => if i = D then cx else C i) := by
  have hvl : vals.length = D := by have := h.2.1.1; omega
  have hk : ∀ {gy cy : Nat} {y : List (Int × Int)}, OwnT w base (some ⟨gy, 0, none⟩) y.length cy y → OwnT w' base (some ⟨gy, 0, none⟩) y.length cy y := fun q => q.kept hg (own_apartK q h.2.1 (by decide))
  refine ⟨by rw [List.length_append, h.1]; rfl, hown, fun i j hi hj hij => ?_, fun i hi => ?_⟩
  · simp only []
    by_cases e1 : i = D <;> by_cases e2 : j = D
    · omega
    · rw [if_pos e1, if_neg e2]; exact fun e => hne j (by omega) e.symm
    · rw [if_neg e1, if_pos e2]; exact hne i (by omega)
    · rw [if_neg e1, if_neg e2]; exact h.2.2.1 i j (by omega) (by omega) hij
  · simp only []
    by_cases e : i = D
    · subst e
      rw [if_pos rfl, if_pos rfl]
      have e2 : (bs ++ [x]).getD i [] = x := by rw [List.getD_eq_getElem?_getD, List.getElem?_append_right (by rw [h.1]; exact Nat.le_refl _), h.1, Nat.sub_self]; rfl
      rw [e2]
      exact ⟨by rw [List.getElem?_append_right (by omega), hvl, Nat.sub_self]; rfl, hk ho⟩
    · rw [if_neg e, if_neg e]
      have h1 := h.2.2.2 i (by omega)
      have e2 : (bs ++ [x]).getD i [] = bs.getD i [] := by rw [List.getD_eq_getElem?_getD, List.getElem?_append_left (by rw [h.1]; omega), ← List.getD_eq_getElem?_getD]
      rw [e2]
      exact ⟨by rw [List.getElem?_append_left (by omega)]; exact h1.1, hk h1.2⟩
/-- one row is put anew -/
theorem PileT.put {x : List (Int × Int)} {gx cx i : Nat} (h : PileT w base (.slice (some ⟨g, 0, none⟩) D c) D bs vals G C) (hi : i < D) (ho : OwnT w base (some ⟨gx, 0, none⟩) x.length cx x) (hne : ∀ j, j < D → j ≠ i → G j ≠ gx) :
    PileT (w.setCell ⟨g, i, none⟩ (.slice (some ⟨gx, 0, none⟩) x.length cx)) base (.slice (some ⟨g, 0, none⟩) D c) D (bs.set i x) (vals.set i (.slice (some ⟨gx, 0, none⟩) x.length cx)) (fun j => if j = i then gx else G j) (fun j => if j = i then cx else C j) := by
  have hvl : vals.length = D := by have := h.2.1.1; omega
  have hk : ∀ {gy cy : Nat} {y : List (Int × Int)}, OwnT w base (some ⟨gy, 0, none⟩) y.length cy y → OwnT (w.setCell ⟨g, i, none⟩ (.slice (some ⟨gx, 0, none⟩) x.length cx)) base (some ⟨gy, 0, none⟩) y.length cy y := fun q => q.kept (put_grown w g i _) (own_apartK q h.2.1 (by decide))
  refine ⟨by rw [List.length_set, h.1], own_put h.2.1 i _, fun a b ha hb hab => ?_, fun j hj => ?_⟩
  · simp only []
    by_cases e1 : a = i <;> by_cases e2 : b = i
    · omega
    · rw [if_pos e1, if_neg e2]; exact fun e => hne b hb e2 e.symm
    · rw [if_neg e1, if_pos e2]; exact hne a ha e1
    · rw [if_neg e1, if_neg e2]; exact h.2.2.1 a b ha hb hab
  · simp only []
    by_cases e : j = i
    · subst e
      rw [if_pos rfl, if_pos rfl]
      have e2 : (bs.set j x).getD j [] = x := by rw [List.getD_eq_getElem?_getD, List.getElem?_set_self (by rw [h.1]; exact hj)]; rfl
      rw [e2]
      exact ⟨by rw [List.getElem?_set_self (by omega)], hk ho⟩
    · rw [if_neg e, if_neg e]
      have h1 := h.2.2.2 j hj
      have e2 : (bs.set i x).getD j [] = bs.getD j [] := by rw [List.getD_eq_getElem?_getD, List.getElem?_set_ne (fun q => e q.symm), ← List.getD_eq_getElem?_getD]
      rw [e2]
      exact ⟨by rw [List.getElem?_set_ne (fun q => e q.symm)]; exact h1.1, hk h1.2⟩
/-- one row has been written on -/
theorem PileT.grown {x : List (Int × Int)} {gx cx i : Nat} (h : PileT w base (.slice (some ⟨g, 0, none⟩) D c) D bs vals G C) (hi : i < D) (hg : w.grownBy w' (some (G i))) (ho : OwnT w' base (some ⟨gx, 0, none⟩) x.length cx x) (hx : gx = G i ∨ w.heap.size ≤ gx) :
    PileT (w'.setCell ⟨g, i, none⟩ (.slice (some ⟨gx, 0, none⟩) x.length cx)) base (.slice (some ⟨g, 0, none⟩) D c) D (bs.set i x) (vals.set i (.slice (some ⟨gx, 0, none⟩) x.length cx)) (fun j => if j = i then gx else G j) (fun j => if j = i then cx else C j) := by
  have hvl : vals.length = D := by have := h.2.1.1; omega
  have hp : w'.ownsRow base 25 1 (.slice (some ⟨g, 0, none⟩) D c) D vals := h.2.1.kept hg (own_apartK h.2.1 (h.2.2.2 i hi).2 (by decide))
  have hk : ∀ {gy cy : Nat} {y : List (Int × Int)}, OwnT w' base (some ⟨gy, 0, none⟩) y.length cy y → OwnT (w'.setCell ⟨g, i, none⟩ (.slice (some ⟨gx, 0, none⟩) x.length cx)) base (some ⟨gy, 0, none⟩) y.length cy y := fun q => q.kept (put_grown w' g i _) (own_apartK q hp (by decide))
  have hne : ∀ j, j < D → j ≠ i → G j ≠ gx := by
    intro j hj hji e
    rcases hx with hx | hx
    · exact h.2.2.1 j i hj hi hji (e.trans hx)
    · have := (h.lt hj).2; omega
  refine ⟨by rw [List.length_set, h.1], own_put hp i _, fun a b ha hb hab => ?_, fun j hj => ?_⟩
  · simp only []
    by_cases e1 : a = i <;> by_cases e2 : b = i
    · omega
    · rw [if_pos e1, if_neg e2]; exact fun e => hne b hb e2 e.symm
    · rw [if_neg e1, if_pos e2]; exact hne a ha e1
    · rw [if_neg e1, if_neg e2]; exact h.2.2.1 a b ha hb hab
  · simp only []
    by_cases e : j = i
    · subst e
      rw [if_pos rfl, if_pos rfl]
      have e2 : (bs.set j x).getD j [] = x := by rw [List.getD_eq_getElem?_getD, List.getElem?_set_self (by rw [h.1]; exact hj)]; rfl
      rw [e2]
      exact ⟨by rw [List.getElem?_set_self (by omega)], hk ho⟩
    · rw [if_neg e, if_neg e]
      have h1 := h.2.2.2 j hj
      have e2 : (bs.set i x).getD j [] = bs.getD j [] := by rw [List.getD_eq_getElem?_getD, List.getElem?_set_ne (fun q => e q.symm), ← List.getD_eq_getElem?_getD]
      rw [e2]
      refine ⟨by rw [List.getElem?_set_ne (fun q => e q.symm)]; exact h1.1, hk (h1.2.kept hg (.inr ?_))⟩
      intro q
      have : G j = G i := by simpa [Value.ownBlock] using q
      exact h.2.2.1 j i hj hi e this
theorem PileT.at {i : Nat} (h : PileT w base (.slice (some ⟨g, 0, none⟩) D c) D bs vals G C) (hi : i < D) : w.cell? ⟨g, i, none⟩ = some (.slice (some ⟨G i, 0, none⟩) (bs.getD i []).length (C i)) := by
  have hk := h.2.1.cells (g := g) rfl i _ (h.2.2.2 i hi).1
  rw [own_adds] at hk
  exact hk
end
theorem rev_top {α : Type} (x : α) (r : List α) (d : Nat) (hd : r.length = d) (dflt : α) : (x :: r).reverse.getD d dflt = x ∧ ∀ y, (x :: r).reverse.set d y = (y :: r).reverse := by
  subst hd
  refine ⟨?_, fun y => ?_⟩
  · rw [List.reverse_cons, List.getD_eq_getElem?_getD, List.getElem?_append_right (by simp), List.length_reverse, Nat.sub_self]; rfl
  · rw [List.reverse_cons, List.reverse_cons, List.set_append_right _ _ (by simp), List.length_reverse, Nat.sub_self]; rfl
theorem rev_two {α : Type} (b a : α) (r : List α) (d : Nat) (hd : r.length = d) (dflt : α) : (b :: a :: r).reverse.getD d dflt = a ∧ (b :: a :: r).reverse.getD (d + 1) dflt = b ∧ ∀ y, ((b :: a :: r).reverse.set d y).take (d + 1) = (y :: r).reverse := by
  refine ⟨?_, (rev_top b (a :: r) (d + 1) (by simp [hd]) dflt).1, fun y => ?_⟩
  · have h := (rev_top a r d hd dflt).1
    rw [List.reverse_cons, List.getD_eq_getElem?_getD, List.getElem?_append_left (by simp; omega), ← List.getD_eq_getElem?_getD]
    exact h
  · have h := (rev_top a r d hd a).2 y
    rw [List.reverse_cons, List.set_append_left _ _ (by simp; omega), h, List.take_append_of_le_length (by simp; omega), List.take_of_length_le (by simp; omega)]
end Go.Proofs.YtgebjnoicgmdoaaGreatDoor
