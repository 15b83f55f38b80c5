/- leaveOut of the program, with the function impl.ConsCore 1 as what decides. -/
import Derived.Test.YtmmhcpigcdlnmaaPicked
import Derived.Deep.RegionHeld3

namespace Go.Proofs.Ytmmhcpigcdlnmaa
open Go.RowKit
open Cs (Cn Tb)

set_option maxRecDepth 100000 in
set_option maxHeartbeats 4000000 in
theorem leaveCore_any (w : World) (B : Nat) (A : Option Addr) (n c : Nat) (l : List Cn) (canB : List Cn → Cn → Bool) (GT : Nat → Nat → Bool) (hB : B ≤ w.heap.size) (hl : ConR w B A n l) (hok : Cs.ok l) (hn : n ≤ 24)
    (hcan : ∀ (w2 : World) (g2 c2 : Nat) (l2 : List Cn) (U R V : Int), ConR w2 w2.heap.size (some ⟨g2, 0, none⟩) l2.length l2 → Cs.ok l2 → l2.length ≤ 24 → Calls Try.prog 59 #[.slice (some ⟨g2, 0, none⟩) l2.length c2, .agg #[.int .i64 U, .int .i64 R, .int .i64 V]] w2 fun e w' => e = .returned (.bool (canB l2 (U, R, V))) ∧ Below w2.heap.size w2 w')
    (h0 : GT 0 = fun _ => false) (hlate : ∀ k, GT k k = false)
    (hyes : ∀ k, k < n → canB (Cs.skip l (Cs.mark (GT k) k true)) (l.getD k (0, 0, 0)) = true → GT (k + 1) = Cs.mark (GT k) k true)
    (hno : ∀ k, k < n → canB (Cs.skip l (Cs.mark (GT k) k true)) (l.getD k (0, 0, 0)) = false → GT (k + 1) = GT k) :
    Calls Try.prog 58 #[.slice A n c, .func (.func 59) #[] #[]] w fun e w' => ∃ g2 c2, e = .returned (.slice (some ⟨g2, 0, none⟩) (Cs.keptI l (GT n)).length c2) ∧ OwnI w' w.heap.size (some ⟨g2, 0, none⟩) (Cs.keptI l (GT n)).length c2 (natI (Cs.keptI l (GT n))) ∧ Below w.heap.size w w' := by
  have hmf : ∀ (fn : Fn) (first cap : Array Value) (w : World), (Instr.makeFunc fn first cap).run Try.prog w = .ok (.func fn first cap) w := fun _ _ _ _ => rfl
  have hmk := make_ints n (by omega)
  have HS0 : Hid (OwnI (w.alloc (.cells (madeCells #[Value.int .i64 0] n) 3)) w.heap.size (some ⟨w.heap.size, 0, none⟩) n n (countL n 0)) := own_whole (Blk.made w _ _) (Nat.le_refl _) (by omega) (by rw [countL_made]) (by simp [countL])
  have HB0 : Hid (Below w.heap.size w (w.alloc (.cells (madeCells #[Value.int .i64 0] n) 3))) := (Below.refl _ _).alloc (Nat.le_refl _) _
  have HL := Lib.hid hl
  have HOK := Lib.hid hok
  have HCAN := Lib.hid hcan
  have HYES := Lib.hid hyes
  have HNO := Lib.hid hno
  have HLATE := Lib.hid hlate
  have H0 := Lib.hid h0
  clear hl hok hcan hyes hno hlate h0
  go_enter Try.func58, Try.ntmps58
  go_wp2
  clear hmk
  go_loopw [15] (fun i wr => ∃ k : Nat, k ≤ n ∧ i = .int .i64 k ∧ Hid (OwnI wr w.heap.size (some ⟨w.heap.size, 0, none⟩) n n (countL n k)) ∧ Hid (Below w.heap.size w wr)) (fun i _ => n - (intOf i).toNat)
  case atStart => exact ⟨0, by omega, rfl, HS0.out, HB0.out⟩
  case round =>
    clear HS0 HB0
    obtain ⟨k, hk, rfl, HO, HB⟩ := hrel
    by_cases hkn : k < n
    · have hki : (k : Int) < (n : Int) := by omega
      obtain ⟨z0, k2, k3⟩ : ∃ z0, wr.cell? ⟨w.heap.size, k, none⟩ = some z0 ∧ wr.frozen? ⟨w.heap.size, k, none⟩ = false := ⟨_, own_spot HO.out (i := k) (u := .int .i64 ((countL n k).getD k 0)) (by
        have h' : k < (countL n k).length := by rw [countL_len]; exact hkn
        rw [List.getElem?_map, List.getElem?_eq_getElem h', List.getD_eq_getElem?_getD, List.getElem?_eq_getElem h']; rfl)⟩
      have HO2 : Hid (OwnI (wr.setCell ⟨w.heap.size, k, none⟩ (.int .i64 (k : Int))) w.heap.size (some ⟨w.heap.size, 0, none⟩) n n (countL n (k + 1))) := by
        have := own_set HO.out k (.int .i64 (k : Int))
        rw [← List.map_set, countL_set] at this
        exact this
      have HB2 : Hid (Below w.heap.size w (wr.setCell ⟨w.heap.size, k, none⟩ (.int .i64 (k : Int)))) := HB.out.setCell (p := ⟨w.heap.size, k, none⟩) (Nat.le_refl _) _
      go_wp2
      go_roundw
      case rel => exact ⟨k + 1, by omega, by go_num, HO2.out, HB2.out⟩
      case measure => simp [intOf]; omega
    · have hki : ¬ (k : Int) < (n : Int) := by omega
      have HX0 : Hid (OwnI wr w.heap.size (some ⟨w.heap.size, 0, none⟩) (Cs.keptI l (GT 0)).length n (natI (Cs.keptI l (GT 0)))) := by
        show OwnI _ _ _ _ _ _
        have h := HO.out
        obtain rfl : k = n := by omega
        rw [H0.out, Cs.kept_none, List.length_range, HL.out.1, ← countL_all]
        exact h
      have HN0 : Hid ((Cs.keptI l (GT 0)).length = n) := by show _ = _; rw [H0.out, Cs.kept_none, List.length_range]; exact HL.out.1
      rw [HN0.out] at HX0
      clear HO
      go_wp2
      go_loopw [25, 5] (fun i v wr => ∃ (q m g2 c2 : Nat), q ≤ n ∧ i = .int .i64 q ∧ v = .slice (some ⟨g2, 0, none⟩) m c2 ∧ Hid ((Cs.keptI l (GT q)).length = m) ∧ Hid (OwnI wr w.heap.size (some ⟨g2, 0, none⟩) m c2 (natI (Cs.keptI l (GT q)))) ∧ Hid (Below w.heap.size w wr)) (fun i _ _ => n - (intOf i).toNat)
      case atStart => exact ⟨0, n, w.heap.size, n, by omega, rfl, rfl, HN0.out, HX0.out, HB.out⟩
      case round =>
        clear HX0 HN0 HB
        obtain ⟨q, m, g2, c2, hq, rfl, rfl, HM, HO, HB⟩ := hrel
        have hszr := HB.out.size
        have hmn : m ≤ n := by rw [← HM.out, ← HL.out.1]; exact Cs.kept_len l (GT q)
        by_cases hqn : q < n
        · have hqi : (q : Int) < (n : Int) := by omega
          obtain ⟨b, off, hA, hb, hc⟩ := HL.out.2 (by omega)
          obtain ⟨x1, x2, x3⟩ := hc q hqn
          obtain ⟨t, ht⟩ : ∃ t, l.getD q (0, 0, 0) = t := ⟨_, rfl⟩
          rw [ht] at x1 x2 x3
          obtain ⟨U, R, V⟩ := t
          have HT := Lib.hid ht
          subst hA
          have k1 := (HB.out.cell (p := ⟨b, off + q * 3, none⟩) (by show b < _; omega)).trans x1
          have k2 := (HB.out.cell (p := ⟨b, off + q * 3 + 1, none⟩) (by show b < _; omega)).trans x2
          have k3 := (HB.out.cell (p := ⟨b, off + q * 3 + 2, none⟩) (by show b < _; omega)).trans x3
          obtain ⟨W1, hW1⟩ : ∃ W1, (wr.alloc (.cells #[.int .i64 (q : Int)] 3)).alloc (.cells #[.int .i64 U, .int .i64 R, .int .i64 V] 34) = W1 := ⟨_, rfl⟩
          have hs1 : W1.heap.size = wr.heap.size + 2 := by rw [← hW1]; simp
          have hb1 : Below wr.heap.size wr W1 := by rw [← hW1]; exact ((Below.refl _ _).alloc (Nat.le_refl _) _).alloc (by simp) _
          have hbi : Blk W1 wr.heap.size 3 #[.int .i64 (q : Int)] := by rw [← hW1]; exact Blk.below (Blk.made wr _ _) ((Below.refl _ _).alloc (Nat.le_refl _) _) (by simp)
          have hbc : Blk W1 (wr.heap.size + 1) 34 #[.int .i64 U, .int .i64 R, .int .i64 V] := by
            have h1 : Blk ((wr.alloc (.cells #[.int .i64 (q : Int)] 3)).alloc (.cells #[.int .i64 U, .int .i64 R, .int .i64 V] 34)) (wr.alloc (.cells #[.int .i64 (q : Int)] 3)).heap.size 34 #[.int .i64 U, .int .i64 R, .int .i64 V] := Blk.made _ _ _
            rw [show (wr.alloc (.cells #[.int .i64 (q : Int)] 3)).heap.size = wr.heap.size + 1 by simp] at h1
            rw [← hW1]
            exact h1
          have HO1 := Lib.hid (own_below' HO.out hb1)
          have HB1 := Lib.hid (HB.out.trans (hb1.mono hszr))
          have HBI := Lib.hid hbi
          have HBC := Lib.hid hbc
          clear hc ht x1 x2 x3 hb1 hbi hbc
          obtain ⟨j, hj, hjx, hju⟩ := kept_place (l := l) (g := GT q) (k := q) (by rw [HL.out.1]; exact hqn) (HLATE.out q)
          rw [HM.out] at hj
          have HER := Lib.hid (kept_erase (by rw [HM.out]; exact hj) hjx hju)
          have HJX := Lib.hid hjx
          have HJU := Lib.hid hju
          clear hjx hju
          go_wp2_with fail
          refine (cloneI_any W1 g2 m c2 w.heap.size (natI (Cs.keptI l (GT q))) HO1.out (by omega)).mono ?_
          rintro e w2 ⟨g3, c3, rfl, ho2, hb2⟩
          have hg3 := (ho2.lt g3 rfl).1
          have hs2 := hb2.size
          have hbi2 := Blk.below HBI.out hb2 (by omega)
          have HBC2 := Lib.hid (Blk.below HBC.out hb2 (by omega))
          have HO2 := Lib.hid (own_below' HO1.out hb2)
          have HB2 := Lib.hid (HB1.out.trans (hb2.mono HB1.out.size))
          have HDEL := Lib.hid (deleteI_any w2 g3 m c3 W1.heap.size wr.heap.size (natI (Cs.keptI l (GT q))) (q : Int) j ho2 (by omega) (hbi2.cell 0) (by omega) hj HJX.out (fun i hi hne => HJU.out i (by rw [HM.out]; exact hi) hne))
          have hg2 := (HO1.out.lt g2 rfl).2
          clear ho2 hb2 hbi2
          go_wp2_with fail
          refine HDEL.out.mono ?_
          rintro e w3 ⟨rfl, ho3, hw3⟩
          rw [HER.out] at ho3
          obtain ⟨G, hG⟩ : ∃ G, Cs.mark (GT q) q true = G := ⟨_, rfl⟩
          rw [hG] at ho3
          have HG := Lib.hid hG
          have HM3 : Hid ((Cs.keptI l G).length = m - 1) := by have h := ho3.1; rw [List.length_map, natI_len, Nat.mul_one] at h; exact h
          have HO3 := Lib.hid ho3
          have HO3L : Hid (OwnI w3 w.heap.size (some ⟨g2, 0, none⟩) m c2 (natI (Cs.keptI l (GT q)))) := HO2.out.kept hw3.1 (.inr (fun e => by have h : some g2 = some g3 := e; injection h with h; omega))
          have HBC3 : Hid (Blk w3 (wr.heap.size + 1) 34 #[.int .i64 U, .int .i64 R, .int .i64 V]) := hw3.blk HBC2.out (by omega)
          have hs3 := hw3.2
          have HB3 : Hid (Below w.heap.size w w3) := hw3.below HB2.out HB2.out.size (by omega)
          have y0 : w3.cell? ⟨wr.heap.size + 1, 0, none⟩ = some (.int .i64 U) := HBC3.out.cell 0
          have y1 : w3.cell? ⟨wr.heap.size + 1, 1, none⟩ = some (.int .i64 R) := HBC3.out.cell 1
          have y2 : w3.cell? ⟨wr.heap.size + 1, 2, none⟩ = some (.int .i64 V) := HBC3.out.cell 2
          have HPK : Hid (Calls Try.prog 71 #[.slice (some ⟨b, off, none⟩) n c, .slice (some ⟨g3, 0, none⟩) (m - 1) c3] w3.drew fun e w' => ∃ g4 c4, e = .returned (.slice (some ⟨g4, 0, none⟩) (m - 1) c4) ∧ OwnC w' w3.heap.size (some ⟨g4, 0, none⟩) (m - 1) c4 (Cs.skip l G) ∧ Below w3.heap.size w3 w') := by
            refine (picked_any w3.drew B (some ⟨b, off, none⟩) n c l (some ⟨g3, 0, none⟩) (m - 1) c3 (Cs.keptI l G) (by have := HB3.out.size; show B ≤ w3.heap.size; omega) ((HL.out.below (HB3.out.mono hB)).keep fun _ _ => rfl) w3.heap.size (Nat.le_refl _) ((OwnI.reads HO3.out).keep fun _ _ => rfl) (fun i hi => by rw [← HL.out.1]; exact Cs.kept_lt hi) (by omega) (by omega)).mono ?_
            rintro e w4 ⟨g4, c4, rfl, h1, h2⟩
            exact ⟨g4, c4, rfl, by rw [Cs.skip_eq]; exact h1, ⟨h2.os, h2.tape, h2.output, h2.size, h2.block⟩⟩
          have HSL : Hid ((Cs.skip l G).length = m - 1) := by show _ = _; rw [Cs.skip_eq, pickC_len]; exact HM3.out
          clear hG ho3 hw3 hW1
          go_wp2_with fail
          go_region_held3 (fun w' => w'.cell? ⟨wr.heap.size + 1, 0, none⟩ = some (.int .i64 U) ∧ w'.cell? ⟨wr.heap.size + 1, 1, none⟩ = some (.int .i64 R) ∧ w'.cell? ⟨wr.heap.size + 1, 2, none⟩ = some (.int .i64 V))
            (first
              | go_keep
              | exact ⟨HBC4.out.cell 0, HBC4.out.cell 1, HBC4.out.cell 2⟩
              | exact ⟨HBC5.out.cell 0, HBC5.out.cell 1, HBC5.out.cell 2⟩)
            (first
              | (go_at_call 71
                 refine HPK.out.mono ?_
                 rintro e w4 ⟨g4, c4, rfl, ho4, hb4⟩
                 have HBC4 : Hid (Blk w4 (wr.heap.size + 1) 34 #[.int .i64 U, .int .i64 R, .int .i64 V]) := Blk.below HBC3.out hb4 HBC3.out.lt
                 have hr4 : ConR w4 w4.heap.size (some ⟨g4, 0, none⟩) (m - 1) (Cs.skip l G) := OwnC.reads ho4
                 rw [← HSL.out] at hr4)
              | (go_at_call 59
                 rw [← HSL.out]
                 refine (HCAN.out w4 g4 c4 (Cs.skip l G) U R V hr4 (Cs.skip_ok HOK.out G) (by rw [HSL.out]; omega)).mono ?_
                 rintro e w5 ⟨rfl, hb5⟩
                 have HBC5 : Hid (Blk w5 (wr.heap.size + 1) 34 #[.int .i64 U, .int .i64 R, .int .i64 V]) := Blk.below HBC4.out hb5 HBC4.out.lt))
          have HB5 : Hid (Below w.heap.size w w5) := (HB3.out.trans (hb4.mono HB3.out.size)).trans (hb5.mono (Nat.le_trans HB3.out.size hb4.size))
          have HO5 := Lib.hid (own_below' (own_below' HO3L.out hb4) hb5)
          have HN5 := Lib.hid (own_base (own_below' (own_below' HO3.out hb4) hb5) (base' := w.heap.size) HB1.out.size)
          clear ho4 hb4 hb5 hr4 HBC4 HBC5 y0 y1 y2
          cases hcb : canB (Cs.skip l G) (U, R, V) with
          | true =>
            have HNX : Hid (GT (q + 1) = G) := by show _ = _; rw [← HG.out]; exact HYES.out q hqn (by rw [HG.out, HT.out]; exact hcb)
            clear hcb
            go_wp2
            go_roundw
            case rel => exact ⟨q + 1, m - 1, g3, c3, by omega, by go_num, by rw [HSL.out], by rw [HNX.out]; exact HM3.out, by rw [HNX.out]; exact HN5.out, HB5.out⟩
            case measure => simp [intOf]; omega
          | false =>
            have HNX : Hid (GT (q + 1) = GT q) := HNO.out q hqn (by rw [HG.out, HT.out]; exact hcb)
            clear hcb
            go_wp2
            go_roundw
            case rel => exact ⟨q + 1, m, g2, c2, by omega, by go_num, rfl, by rw [HNX.out]; exact HM.out, by rw [HNX.out]; exact HO5.out, HB5.out⟩
            case measure => simp [intOf]; omega
        · have hqi : ¬ (q : Int) < (n : Int) := by omega
          have HE : Hid (q = n) := by show q = n; omega
          go_wp2
          go_ret
          refine ⟨g2, c2, ?_, ?_, HB.out⟩
          · rw [← HE.out, HM.out]; rfl
          · rw [← HE.out, HM.out]; exact HO.out
end Go.Proofs.Ytmmhcpigcdlnmaa
