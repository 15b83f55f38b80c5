/- Marks upon tokens and levels with a higher bound of the first mark. -/
/- The law FnExactConsSubst: the walk. -/
import Derived.Test.YtmbcjddahncocaaDoorPtEdge
import Derived.Test.YtmbcjddahncocaaDoorLawC2
import Derived.Test.YtmbcjddahncocaaDoorLaws1
import Derived.Test.YtmbcjddahncocaaDoorCoMem

namespace Go.Proofs.YtmbcjddahncocaaDoor
open Go.RowKit

set_option maxHeartbeats 800000 in
theorem markTokS_big (w : World) (base : Nat) (A : Option Addr) (n c : Nat) (xs : List Value) (hown : w.ownsRow base 48 2 (.slice A n c) n xs) (k : Nat) (hn : n ≤ 3000000) (hk : k ≤ 4000000) :
    Calls Tryd.prog 111 #[.slice A n c, .int .i64 k] w fun e w' => e = .returned (.int .i64 ((k + n * 2 : Nat) : Int)) ∧ MarkOut w base 48 2 (.slice A n c) n k w' := by
  by_cases h0 : n = 0
  · subst h0
    have HO := Lib.hid (own_empty hown k)
    clear hown
    go_enter Tryd.func111, Tryd.ntmps111
    go_wp2
    go_loop [1, 5] (fun m i => m = .int .i64 k ∧ i = .int .i64 0) (fun _ _ => 0)
    case atStart => exact ⟨rfl, rfl⟩
    case round =>
      obtain ⟨rfl, rfl⟩ := hrel
      go_wp2
      go_ret
      exact ⟨rfl, World.grownBy.refl _ _, rfl, HO.out⟩
  · rcases hown.2 with ⟨_, h⟩ | ⟨g, cap, cur, hv, hb, hgg, h1, h2, h3, h4⟩
    · omega
    · injection hv with e1 e2 e3
      subst e1; subst e3
      have hblk : Blk w g 48 cur := hgg
      have HS : Hid (Marking w g 48 (c * 2) k 0 w) := ⟨World.grownBy.refl _ _, rfl, cur, hblk, h3, by intro i hi; omega⟩
      have HW := Lib.hid hown
      clear hgg hblk h3 h4 hown
      go_enter Tryd.func111, Tryd.ntmps111
      go_wp2
      go_loopw [1, 5] (fun m i wr => ∃ j : Nat, j ≤ n ∧ i = .int .i64 j ∧ m = .int .i64 ((k + j * 2 : Nat) : Int) ∧ Marking w g 48 (c * 2) k (j * 2) wr) (fun _ i _ => n - (intOf i).toNat)
      case atStart => exact ⟨0, Nat.zero_le _, rfl, rfl, HS.out⟩
      case round =>
        obtain ⟨j, hj, rfl, rfl, hM⟩ := hrel
        by_cases hlt : j < n
        · have hM1 := marking_step hM (by omega)
          have HN := Lib.hid (marking_step hM1 (by omega))
          obtain ⟨_, _, cs, hblk, hs, _⟩ := hM
          have f1 := hblk.thawed (j * 2)
          have f2 := hblk.thawed (j * 2 + 1)
          obtain ⟨v1, d1⟩ : ∃ v1, wr.cell? ⟨g, j * 2, none⟩ = some v1 := ⟨_, (hblk.cell _).trans (Array.getElem?_eq_getElem (by omega))⟩
          obtain ⟨v2, d2⟩ : ∃ v2, wr.cell? ⟨g, j * 2 + 1, none⟩ = some v2 := ⟨_, (hblk.cell _).trans (Array.getElem?_eq_getElem (by omega))⟩
          clear hblk hs hM1
          go_wp2
          go_roundw
          case rel => exact ⟨j + 1, by omega, by go_num, by go_num, by
            have h := HN.out
            rw [show (j + 1) * 2 = j * 2 + 1 + 1 by omega]
            simpa [Nat.add_assoc, Int.add_assoc] using h⟩
          case measure => simp [intOf]; omega
        · obtain rfl : j = n := by omega
          have HM := Lib.hid hM
          clear hM
          go_wp2
          go_ret
          have hM := HM.out
          exact ⟨rfl, hM.1, hM.2.1, marked (size := 2) HW.out hM⟩

set_option maxRecDepth 100000 in
set_option maxHeartbeats 1600000 in
theorem markLevelS_big (w : World) (g hi n c : Nat) (ls : List (List (Int × Int))) (h : LvlOwn w g hi n ls) (k : Nat) (hm : bulk ls ≤ 1048576) (hk : k + tot ls * 2 ≤ 4000000) :
    Calls Tryd.prog 55 #[.slice (some ⟨g, 0, none⟩) n c, .int .i64 k] w fun e w' => e = .returned (.int .i64 ((k + tot ls * 2 : Nat) : Int)) ∧ LKept w g hi w' := by
  obtain ⟨hln, h2, h3, gs, h4, h5, ⟨cs, hblk, hs, hc⟩, h7⟩ := h
  have hn : n ≤ 1048576 := by unfold bulk at hm; omega
  have HC := Lib.hid hc
  have H4 := Lib.hid h4
  have H5 := Lib.hid h5
  have H7 := Lib.hid h7
  clear hc h4 h5 h7
  go_enter Tryd.func55, Tryd.ntmps55
  go_wp2
  go_loopw [1, 5] (fun v i wr => ∃ j : Nat, j ≤ n ∧ i = .int .i64 j ∧ v = .int .i64 ((k + tot (ls.take j) * 2 : Nat) : Int) ∧ LKept w g hi wr ∧ Blk wr g 56 cs ∧ ∀ q, j ≤ q → q < n → TokOwn wr (gs q) (ls.getD q []).length (ls.getD q [])) (fun _ i _ => n - (intOf i).toNat)
  case atStart => exact ⟨0, Nat.zero_le _, rfl, by simp [tot], ⟨fun _ _ hb _ => hb, fun _ _ _ _ _ _ _ _ hu _ _ => hu, rfl⟩, hblk, fun q _ hq => H7.out q hq⟩
  case round =>
    obtain ⟨j, hj, rfl, rfl, hkept, hb1, hrest⟩ := hrel
    have HR := Lib.hid hrest
    have htl := tot_le ls j
    clear hrest
    by_cases hlt : j < n
    · have x1 := (hb1.cell j).trans (HC.out j hlt)
      have hlt1 := hb1.lt
      have htk := tot_take ls j (by omega)
      have htl2 := tot_le ls (j + 1)
      have hnj := tot_get ls j (by omega)
      obtain ⟨m, hmj⟩ : ∃ m, (ls.getD j []).length = m := ⟨_, rfl⟩
      have ho := HR.out j (Nat.le_refl _) hlt
      rw [hmj] at x1 htk hnj ho
      have hnm : m ≤ 1048576 := by unfold bulk at hm; omega
      have hown := ho.owns hnm
      have hg4 := H4.out j hlt
      have hin : InR (.slice (some ⟨gs j, 0, none⟩) m m) (gs j) (gs j + 1) := fun k hk => by have h' : gs j = k := (by simpa [Value.ownBlock] using hk); omega
      obtain ⟨S, hS⟩ : ∃ S, tot (ls.take j) = S := ⟨_, rfl⟩
      rw [hS] at htk htl ⊢
      have HTK := Lib.hid htk
      have HOW := Lib.hid hown
      have hkb : k + S * 2 ≤ 4000000 := by omega
      clear ho hmj hS htk hown htl2
      go_wp2_with fail
      refine (markTokS_big wr _ _ m m _ HOW.out (k + S * 2) (by omega) hkb).mono ?_
      rintro e w1 ⟨rfl, hk1⟩
      have HK := Lib.hid (hkept.step (by omega) hk1 hin (by omega) (by omega))
      have HBK := Lib.hid (hb1.grown hk1.1 (fun he => by have h' := hin g he.symm; omega))
      have HRS : Hid (∀ q, j + 1 ≤ q → q < n → TokOwn w1 (gs q) (ls.getD q []).length (ls.getD q [])) := fun q hq hqn => (HR.out q (by omega) hqn).mark hk1 hin (by have := H5.out j q (by omega) hqn; omega)
      clear hk1 hkept hb1
      go_wp2
      go_roundw
      case rel => exact ⟨j + 1, by omega, by go_num, by rw [HTK.out]; congr 2; omega, HK.out, HBK.out, HRS.out⟩
      case measure => simp [intOf]; omega
    · obtain rfl : j = n := by omega
      have ht : tot (ls.take j) = tot ls := by rw [List.take_of_length_le (by omega)]
      rw [ht]
      clear ht
      go_wp2
      go_ret
      exact ⟨rfl, hkept⟩
end Go.Proofs.YtmbcjddahncocaaDoor

namespace Go.Proofs.YtmbcjddahncocaaDoor
open Go.RowKit

set_option maxRecDepth 100000 in
set_option maxHeartbeats 4000000 in
theorem consSubstLaw_any (w : World) (B : Nat) (A0 : Option Addr) (n0 c0 : Nat) (l0 : List Cs.Cn) (A1 : Option Addr) (n1 c1 : Nat) (l1 : List (List (Int × Int))) (T : TypeId) (pv : Value) (h0 : 0 < B) (hB : B ≤ w.heap.size)
    (hl0 : ConR w B A0 n0 l0) (hn0 : (n0 : Int) ≤ 9223372036854775807) (hl1 : LvlR w B A1 n1 l1) (hn1 : (n1 : Int) ≤ 9223372036854775807) (hE : ErrAt w T pv) :
    Calls Tryd.prog 10 #[.slice A0 n0 c0, .slice A1 n1 c1] w fun e w' => e = .returned (.bool true) ∧ Below w.heap.size w w' := by
  by_cases hbig0 : 1048576 < (n0 : Int)
  · go_enter Tryd.func10, Tryd.ntmps10
    go_wp2_with fail
    refine (szConS_any A0 n0 c0 (1048576) w (by omega) (by omega) hn0).mono ?_
    rintro e w' ⟨rfl, rfl⟩
    rw [if_pos (by omega)]
    go_wp2
    go_ret
    exact ⟨rfl, (Below.refl _ _)⟩
  · skip
    by_cases hbig1 : 1048576 - (n0 : Int) < ((bulk l1) : Int)
    · go_enter Tryd.func10, Tryd.ntmps10
      go_wp2_with fail
      refine (szConS_any A0 n0 c0 (1048576) w (by omega) (by omega) hn0).mono ?_
      rintro e w' ⟨rfl, rfl⟩
      rw [if_neg (by omega)]
      have hs0 : ¬ (1048576 - (n0 : Int) < 0) := by omega
      go_wp2_with fail
      refine (szLevelS_any w B A1 n1 c1 l1 (1048576 - (n0 : Int)) hB hl1 hn1 (by omega) (by omega)).mono ?_
      rintro e u1 ⟨rfl, hbu1⟩
      have hbs1 : Below w.heap.size w u1 := hbu1
      rw [szR_pos (by omega)]
      go_wp2
      go_ret
      exact ⟨rfl, hbs1⟩
    · skip
      have hm0 : n0 ≤ 1048576 := by omega
      have hm1 : bulk l1 ≤ 1048576 := by omega
      have hbt1 : tot l1 ≤ bulk l1 := Nat.le_add_left _ _
      have hn1b : n1 ≤ 1048576 := by have := hl1.1; unfold bulk at hm1; omega
      obtain ⟨hr1, hr2⟩ := csub_len l0 l1
      obtain ⟨R, hR⟩ : ∃ R, csubR l0 l1 = R := ⟨_, rfl⟩
      rw [hR] at hr1 hr2
      have HR := Lib.hid hR
      obtain ⟨ps, hps⟩ : ∃ ps, R.getD [] = ps := ⟨_, rfl⟩
      rw [hps] at hr1 hr2
      have HPS := Lib.hid hps
      obtain ⟨m, hm⟩ : ∃ m, ps.length = m := ⟨_, rfl⟩
      rw [hm] at hr1 hr2
      have HM := Lib.hid hm
      obtain ⟨ok, hok⟩ : ∃ ok, R.isSome = ok := ⟨_, rfl⟩
      have HOK := Lib.hid hok
      have HLEN := Lib.hid hr2
      obtain ⟨P, hP⟩ : ∃ P, pos (fun i => (toks ps i).length) 1 m = P := ⟨_, rfl⟩
      have HPOS := Lib.hid hP
      clear hR hps hm hok hr2 hP
      go_enter Tryd.func10, Tryd.ntmps10
      go_wp2_with fail
      refine (szConS_any A0 n0 c0 (1048576) w (by omega) (by omega) hn0).mono ?_
      rintro e w' ⟨rfl, rfl⟩
      rw [if_neg (by omega)]
      have hs0 : ¬ (1048576 - (n0 : Int) < 0) := by omega
      go_wp2_with fail
      refine (szLevelS_any w B A1 n1 c1 l1 (1048576 - (n0 : Int)) hB hl1 hn1 (by omega) (by omega)).mono ?_
      rintro e u1 ⟨rfl, hbu1⟩
      have hbs1 : Below w.heap.size w u1 := hbu1
      rw [szR_neg (by omega)]
      have hs1 : ¬ (1048576 - (n0 : Int) - ((bulk l1) : Int) < 0) := by omega
      have hB0 : Below w.heap.size w u1 := hbs1
      have s0 := hB0.size
      go_wp2_with fail
      refine (toConS_any u1 B A0 n0 c0 l0 (Nat.le_trans hB hB0.size) (hl0.below (hB0.mono hB)) hm0).mono ?_
      rintro e w1 ⟨rfl, hb1, p0x1⟩
      have hz1 : u1.heap.size + 1 ≤ w1.heap.size := p0x1.lt
      have hB1 : Below w.heap.size w w1 := hB0.trans (hb1.mono hB0.size)
      have s1 := hb1.size
      go_wp2_with fail
      refine (toLevelS_any w1 B A1 n1 c1 l1 (Nat.le_trans hB hB1.size) (hl1.below (hB1.mono hB)) hm1).mono ?_
      rintro e w2 ⟨rfl, hb2, p1x2⟩
      have hz2 : w1.heap.size + 1 ≤ w2.heap.size := p1x2.lt
      have hB2 : Below w.heap.size w w2 := hB1.trans (hb2.mono hB1.size)
      have s2 := hb2.size
      have p0x2 := p0x1.below hb2 (by omega)
      clear p0x1
      go_wp2_with fail
      refine ((specCSub_any w2 w2.heap.size (some ⟨u1.heap.size, 0, none⟩) n0 n0 l0 (some ⟨w1.heap.size, 0, none⟩) n1 n1 l1 (Nat.le_refl _) (p0x2.reads.more (by omega)) (by omega) ((p1x2.reads hm1).more (by omega)) (by omega) hm1).mono fun e w' h => csbW_of (HR.out ▸ h) HPS.out HM.out HOK.out).mono ?_
      rintro e w3 ⟨Aow, cow, rbow, rcow, rfl, ow3, hb3⟩
      have hB3 : Below w.heap.size w w3 := hB2.trans (hb3.mono hB2.size)
      have s3 := hb3.size
      have p0x3 := p0x2.below hb3 (by omega)
      clear p0x2
      have p1x3 := p1x2.below hb3 (by omega)
      clear p1x2
      clear p0x3
      clear p1x3
      go_wp2_with fail
      refine (toConS_any w3 B A0 n0 c0 l0 (Nat.le_trans hB hB3.size) (hl0.below (hB3.mono hB)) hm0).mono ?_
      rintro e w4 ⟨rfl, hb4, x0x4⟩
      have hz4 : w3.heap.size + 1 ≤ w4.heap.size := x0x4.lt
      have hB4 : Below w.heap.size w w4 := hB3.trans (hb4.mono hB3.size)
      have s4 := hb4.size
      have ow4 := ow3.below hb4
      clear ow3
      go_wp2_with fail
      refine (toLevelS_any w4 B A1 n1 c1 l1 (Nat.le_trans hB hB4.size) (hl1.below (hB4.mono hB)) hm1).mono ?_
      rintro e w5 ⟨rfl, hb5, x1x5⟩
      have hz5 : w4.heap.size + 1 ≤ w5.heap.size := x1x5.lt
      have hB5 : Below w.heap.size w w5 := hB4.trans (hb5.mono hB4.size)
      have s5 := hb5.size
      have ow5 := ow4.below hb5
      clear ow4
      have x0x5 := x0x4.below hb5 (by omega)
      clear x0x4
      go_wp2_with fail
      refine ((implCSub_any w5 w5.heap.size (some ⟨w3.heap.size, 0, none⟩) n0 n0 l0 (some ⟨w4.heap.size, 0, none⟩) n1 n1 l1 T pv (by omega) (Nat.le_refl _) (x0x5.reads.more (by omega)) (by omega) ((x1x5.reads hm1).more (by omega)) (by omega) hm1 (hE.below (hB5.mono hB) h0)).mono fun e w' h => csbW_of (HR.out ▸ h) HPS.out HM.out HOK.out).mono ?_
      rintro e w6 ⟨Aog, cog, rbog, rcog, rfl, og6, hb6⟩
      have hB6 : Below w.heap.size w w6 := hB5.trans (hb6.mono hB5.size)
      have s6 := hb6.size
      have ow6 := ow5.below hb6
      clear ow5
      have x0x6 := x0x5.below hb6 (by omega)
      clear x0x5
      have x1x6 := x1x5.below hb6 (by omega)
      clear x1x5
      have hbb : (ok != ok) = false := by cases ok <;> rfl
      go_wp2_with fail
      refine (eqPairS_any w6 _ _ _ _ _ _ _ _ _ ps _ _ _ _ og6 ow6 (by omega) HLEN.out).mono ?_
      rintro e w7 ⟨rfl, hb7⟩
      have hB7 : Below w.heap.size w w7 := hB6.trans (hb7.mono hB6.size)
      have s7 := hb7.size
      have ow7 := ow6.below hb7
      clear ow6
      have og7 := og6.below hb7
      clear og6
      have x0x7 := x0x6.below hb7 (by omega)
      clear x0x6
      have x1x7 := x1x6.below hb7 (by omega)
      clear x1x6
      go_wp2_with fail
      refine (toConS_any w7 B A0 n0 c0 l0 (Nat.le_trans hB hB7.size) (hl0.below (hB7.mono hB)) hm0).mono ?_
      rintro e w8 ⟨rfl, hb8, z8⟩
      have hz8 : w7.heap.size + 1 ≤ w8.heap.size := z8.lt
      have hB8 : Below w.heap.size w w8 := hB7.trans (hb8.mono hB7.size)
      have s8 := hb8.size
      have ow8 := ow7.below hb8
      clear ow7
      have og8 := og7.below hb8
      clear og7
      have x0x8 := x0x7.below hb8 (by omega)
      clear x0x7
      have x1x8 := x1x7.below hb8 (by omega)
      clear x1x7
      go_wp2_with fail
      refine (eqConS_any w8 w8.heap.size _ _ n0 n0 n0 n0 l0 l0 (Nat.le_refl _) (x0x8.reads.more (by omega)) (z8.reads.more (by omega)) (by omega) (by omega)).mono ?_
      rintro e w9 ⟨rfl, hb9⟩
      rw [decide_eq_true rfl]
      clear z8
      have hB9 : Below w.heap.size w w9 := hB8.trans (hb9.mono hB8.size)
      have s9 := hb9.size
      have ow9 := ow8.below hb9
      clear ow8
      have og9 := og8.below hb9
      clear og8
      have x0x9 := x0x8.below hb9 (by omega)
      clear x0x8
      have x1x9 := x1x8.below hb9 (by omega)
      clear x1x8
      go_wp2_with fail
      refine (toLevelS_any w9 B A1 n1 c1 l1 (Nat.le_trans hB hB9.size) (hl1.below (hB9.mono hB)) hm1).mono ?_
      rintro e w10 ⟨rfl, hb10, z10⟩
      have hz10 : w9.heap.size + 1 ≤ w10.heap.size := z10.lt
      have hB10 : Below w.heap.size w w10 := hB9.trans (hb10.mono hB9.size)
      have s10 := hb10.size
      have ow10 := ow9.below hb10
      clear ow9
      have og10 := og9.below hb10
      clear og9
      have x0x10 := x0x9.below hb10 (by omega)
      clear x0x9
      have x1x10 := x1x9.below hb10 (by omega)
      clear x1x9
      go_wp2_with fail
      refine (eqLevelS_any w10 w10.heap.size _ _ n1 n1 n1 l1 (Nat.le_refl _) ((x1x10.reads hm1).more (by omega)) ((z10.reads hm1).more (by omega)) hm1).mono ?_
      rintro e w11 ⟨rfl, hb11⟩
      clear z10
      have hB11 : Below w.heap.size w w11 := hB10.trans (hb11.mono hB10.size)
      have s11 := hb11.size
      have ow11 := ow10.below hb11
      clear ow10
      have og11 := og10.below hb11
      clear og10
      have x0x11 := x0x10.below hb11 (by omega)
      clear x0x10
      have x1x11 := x1x10.below hb11 (by omega)
      clear x1x10
      have hx0 := x0x11.owns hm0
      have ix0 : InR (.slice (some ⟨w3.heap.size, 0, none⟩) n0 n0) w3.heap.size (w3.heap.size + 1) := fun k hk => by have h' : w3.heap.size = k := (by simpa [Value.ownBlock] using hk); omega
      clear x0x11
      go_wp2_with fail
      refine (markConS_any w11 _ _ n0 n0 _ hx0 (1) (by omega) (by omega)).mono ?_
      rintro e w12 ⟨rfl, hk12⟩
      have hB12 : Below w.heap.size w w12 := markBelow hB11 hk12 ix0 (by omega) hB11.size
      have ow12 := ow11.other hk12 ix0 (by omega)
      clear ow11
      have og12 := og11.other hk12 ix0 (by omega)
      clear og11
      have x1x12 := x1x11.mark hk12 ix0 (by omega)
      clear x1x11
      have s12 : w11.heap.size ≤ w12.heap.size := by rw [hk12.2.1]; exact Nat.le_refl _
      clear hk12 hx0
      go_wp2_with fail
      refine (markLevelS_big w12 _ _ n1 n1 l1 x1x12 (1 + n0 * 3) hm1 (by omega)).mono ?_
      rintro e w13 ⟨rfl, hk13⟩
      have hB13 : Below w.heap.size w w13 := hk13.below hB12 (by omega)
      have ow13 := ow12.kept hk13 (by omega)
      clear ow12
      have og13 := og12.kept hk13 (by omega)
      clear og12
      have s13 : w12.heap.size ≤ w13.heap.size := hk13.size
      clear hk13 x1x12
      have hkk : ¬ (((1 + n0 * 3 + tot l1 * 2 : Nat) : Int) < 0) := by omega
      go_wp2_with fail
      refine (eqPairS_any w13 _ _ _ _ _ _ _ _ _ ps _ _ _ _ og13 ow13 (by omega) HLEN.out).mono ?_
      rintro e w14 ⟨rfl, hb14⟩
      have hB14 : Below w.heap.size w w14 := hB13.trans (hb14.mono hB13.size)
      have s14 := hb14.size
      have ow14 := ow13.below hb14
      clear ow13
      have og14 := og13.below hb14
      clear og13
      go_wp2_with fail
      refine (markPairS_any w14 _ _ _ _ _ _ _ _ _ _ og14 1 (by omega) HLEN.out (by omega) (by omega)).mono ?_
      rintro e w15 ⟨rfl, hk15, og15⟩
      rw [HPOS.out]
      have hB15 : Below w.heap.size w w15 := hk15.below hB14 (by omega)
      have ow15 := ow14.kept hk15 (by omega)
      have s15 : w14.heap.size ≤ w15.heap.size := hk15.size
      clear hk15 ow14 og14
      go_wp2_with fail
      refine (heldPairS_any w15 _ _ _ _ _ _ _ _ 1 og15 (by omega) HLEN.out (by omega)).mono ?_
      rintro e w' ⟨rfl, rfl⟩
      rw [HPOS.out]
      have hq1 : ¬ ((P : Int) < 0) := by omega
      have hq2 : ((P : Int) != (P : Int)) = false := by simp
      go_wp2_with fail
      refine (toConS_any w15 B A0 n0 c0 l0 (Nat.le_trans hB hB15.size) (hl0.below (hB15.mono hB)) hm0).mono ?_
      rintro e w16 ⟨rfl, hb16, y0x16⟩
      have hz16 : w15.heap.size + 1 ≤ w16.heap.size := y0x16.lt
      have hB16 : Below w.heap.size w w16 := hB15.trans (hb16.mono hB15.size)
      have s16 := hb16.size
      have ow16 := ow15.below hb16
      clear ow15
      have og16 := og15.below hb16
      clear og15
      go_wp2_with fail
      refine (toLevelS_any w16 B A1 n1 c1 l1 (Nat.le_trans hB hB16.size) (hl1.below (hB16.mono hB)) hm1).mono ?_
      rintro e w17 ⟨rfl, hb17, y1x17⟩
      have hz17 : w16.heap.size + 1 ≤ w17.heap.size := y1x17.lt
      have hB17 : Below w.heap.size w w17 := hB16.trans (hb17.mono hB16.size)
      have s17 := hb17.size
      have ow17 := ow16.below hb17
      clear ow16
      have og17 := og16.below hb17
      clear og16
      have y0x17 := y0x16.below hb17 (by omega)
      clear y0x16
      go_wp2_with fail
      refine ((implCSub_any w17 w17.heap.size (some ⟨w15.heap.size, 0, none⟩) n0 n0 l0 (some ⟨w16.heap.size, 0, none⟩) n1 n1 l1 T pv (by omega) (Nat.le_refl _) (y0x17.reads.more (by omega)) (by omega) ((y1x17.reads hm1).more (by omega)) (by omega) hm1 (hE.below (hB17.mono hB) h0)).mono fun e w' h => csbW_of (HR.out ▸ h) HPS.out HM.out HOK.out).mono ?_
      rintro e w18 ⟨Aoh, coh, rboh, rcoh, rfl, oh18, hb18⟩
      have hB18 : Below w.heap.size w w18 := hB17.trans (hb18.mono hB17.size)
      have s18 := hb18.size
      have ow18 := ow17.below hb18
      clear ow17
      have og18 := og17.below hb18
      clear og17
      have y0x18 := y0x17.below hb18 (by omega)
      clear y0x17
      have y1x18 := y1x17.below hb18 (by omega)
      clear y1x17
      clear y0x18
      clear y1x18
      go_wp2_with fail
      refine (eqPairS_any w18 _ _ _ _ _ _ _ _ _ ps _ _ _ _ oh18 ow18 (by omega) HLEN.out).mono ?_
      rintro e w19 ⟨rfl, hb19⟩
      have hB19 : Below w.heap.size w w19 := hB18.trans (hb19.mono hB18.size)
      have s19 := hb19.size
      have ow19 := ow18.below hb19
      clear ow18
      have og19 := og18.below hb19
      clear og18
      have oh19 := oh18.below hb19
      clear oh18
      go_wp2_with fail
      refine (heldPairS_any w19 _ _ _ _ _ _ _ _ 1 og19 (by omega) HLEN.out (by omega)).mono ?_
      rintro e w' ⟨rfl, rfl⟩
      rw [HPOS.out]
      go_wp2
      go_ret
      exact ⟨rfl, hB19⟩
end Go.Proofs.YtmbcjddahncocaaDoor
