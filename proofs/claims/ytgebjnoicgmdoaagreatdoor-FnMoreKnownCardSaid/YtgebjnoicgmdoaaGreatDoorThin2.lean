/- Constraints of the program: implies, ConsImply. -/
/- leaveOut of the program, with the function impl.ConsImply as what decides. -/
/- ConsThin of the program. -/
import Derived.Test.YtgebjnoicgmdoaaGreatDoorPtSat
import Derived.Test.YtgebjnoicgmdoaaGreatDoorCsMath7
import Derived.Test.YtgebjnoicgmdoaaGreatDoorMkG
import Derived.Deep.RegionHeld3

namespace Go.Proofs.YtgebjnoicgmdoaaGreatDoor
open Go.RowKit
open Cs (Cn Tb)

/-- what a table implies -/
def impT (T : Tb) (u v : Nat) (R : Int) : Bool := if R = 1 then decide (1 ≤ T u v) else if R = 2 then decide (0 ≤ T u v) && decide (0 ≤ T v u) else decide (0 ≤ T u v)
theorem impT_imp {l : List Cn} {U R V : Int} {u v : Nat} (hu : U + 1 = u) (hv : V + 1 = v) (h0 : 0 ≤ R) (h2 : R ≤ 2) : impT (Cs.tab l) u v R = Cs.imp l (U, R, V) := by
  rw [imp_at hu hv]
  unfold impT
  by_cases e1 : R = 1
  · rw [if_pos e1, if_neg (by omega), if_pos e1]
  · by_cases e2 : R = 2
    · rw [if_neg e1, if_pos e2, if_neg (by omega), if_neg e1]
    · rw [if_neg e1, if_neg e2, if_pos (by omega)]

set_option maxRecDepth 100000 in
set_option maxHeartbeats 1600000 in
theorem implies_any (w : World) (T : Tb) (U R V : Int) (u v : Nat) (hu : U + 1 = u) (hu6 : u < 6) (hv : V + 1 = v) (hv6 : v < 6) :
    Calls Tryz.prog 72 #[tabV T, .agg #[.int .i64 U, .int .i64 R, .int .i64 V]] w fun e w' => e = .returned (.bool (impT T u v R)) ∧ Below w.heap.size w w' := by
  obtain ⟨W, hW⟩ : ∃ W, (w.alloc (.cells (tabA T) 85)).alloc (.cells #[.int .i64 U, .int .i64 R, .int .i64 V] 41) = W := ⟨_, rfl⟩
  have hb0 : Below w.heap.size w W := by rw [← hW]; exact ((Below.refl _ _).alloc (Nat.le_refl _) _).alloc (by simp) _
  have c0 : Blk W w.heap.size 85 (tabA T) := by
    rw [← hW]
    exact Blk.below (Blk.made w _ _) ((Below.refl _ _).alloc (Nat.le_refl _) _) (by simp)
  have c1 : Blk W (w.heap.size + 1) 41 #[.int .i64 U, .int .i64 R, .int .i64 V] := by
    have h1 : Blk ((w.alloc (.cells (tabA T) 85)).alloc (.cells #[.int .i64 U, .int .i64 R, .int .i64 V] 41)) (w.alloc (.cells (tabA T) 85)).heap.size 41 #[.int .i64 U, .int .i64 R, .int .i64 V] := Blk.made _ _ _
    rw [show (w.alloc (.cells (tabA T) 85)).heap.size = w.heap.size + 1 by simp] at h1
    rw [← hW]
    exact h1
  have y0 : W.cell? ⟨w.heap.size + 1, 0, none⟩ = some (.int .i64 U) := c1.cell 0
  have y1 : W.cell? ⟨w.heap.size + 1, 1, none⟩ = some (.int .i64 R) := c1.cell 1
  have y2 : W.cell? ⟨w.heap.size + 1, 2, none⟩ = some (.int .i64 V) := c1.cell 2
  have HC1 := Lib.hid c1
  have HC0 := Lib.hid c0
  have HB0 := Lib.hid hb0
  have HU := Lib.hid hu
  have HV := Lib.hid hv
  clear c1 hu hv hb0
  go_enter Tryz.func72, Tryz.ntmps72
  go_wp2_with (refine wpList_load_row rfl 85 _ rfl w.heap.size rfl 85 (tabA T) (0, 0) _ c0 Tryz.underlying85 rfl (size_tab T) ?_)
  refine (far_any W T U V u v HU.out hu6 HV.out hv6).mono ?_
  rintro e w1 ⟨rfl, hb1⟩
  have HB1 := Lib.hid (HB0.out.trans (hb1.mono HB0.out.size))
  have k0 := Blk.below HC0.out hb1 HC0.out.lt
  have k1 := Blk.below HC1.out hb1 HC1.out.lt
  have z0 : w1.cell? ⟨w.heap.size + 1, 0, none⟩ = some (.int .i64 U) := k1.cell 0
  have z1 : w1.cell? ⟨w.heap.size + 1, 1, none⟩ = some (.int .i64 R) := k1.cell 1
  have z2 : w1.cell? ⟨w.heap.size + 1, 2, none⟩ = some (.int .i64 V) := k1.cell 2
  obtain ⟨x, hx⟩ : ∃ x, T u v = x := ⟨_, rfl⟩
  rw [hx]
  have HX := Lib.hid hx
  clear hb1 k1 hW y0 y1 y2 c0 hx
  by_cases e1 : R = 1
  · have HF : Hid (impT T u v R = decide (1 ≤ x)) := by show _ = _; unfold impT; rw [if_pos e1, HX.out]
    subst e1
    go_wp2
    go_ret
    exact ⟨by rw [HF.out]; rfl, HB1.out⟩
  · have d1 : (R == 1) = false := by simpa using e1
    by_cases e2 : R = 2
    · subst e2
      by_cases h0 : 0 ≤ x
      · have HF : Hid (impT T u v 2 = decide (0 ≤ T v u)) := by show _ = _; unfold impT; rw [if_neg (by decide), if_pos rfl, HX.out, decide_eq_true h0, Bool.true_and]
        have dx : decide (0 ≤ x) = true := decide_eq_true h0
        go_wp2_with (refine wpList_load_row_g rfl 85 _ rfl w.heap.size rfl 85 (tabA T) (0, 0) _ k0 Tryz.underlying85 rfl (size_tab T) ?_)
        refine (far_any w1 T V U v u HV.out hv6 HU.out hu6).mono ?_
        rintro e w2 ⟨rfl, hb2⟩
        have HB2 := Lib.hid (HB1.out.trans (hb2.mono HB1.out.size))
        clear hb2
        obtain ⟨y, hy⟩ : ∃ y, T v u = y := ⟨_, rfl⟩
        rw [hy] at HF ⊢
        clear hy
        go_wp2
        go_ret
        exact ⟨by rw [HF.out]; rfl, HB2.out⟩
      · have HF : Hid (impT T u v 2 = false) := by show _ = _; unfold impT; rw [if_neg (by decide), if_pos rfl, HX.out, decide_eq_false h0, Bool.false_and]
        have dx : decide (0 ≤ x) = false := decide_eq_false h0
        go_wp2
        go_ret
        exact ⟨by rw [HF.out]; rfl, HB1.out⟩
    · have HF : Hid (impT T u v R = decide (0 ≤ x)) := by show _ = _; unfold impT; rw [if_neg e1, if_neg e2, HX.out]
      have d2 : (R == 2) = false := by simpa using e2
      clear e1 e2
      go_wp2
      go_ret
      exact ⟨by rw [HF.out]; rfl, HB1.out⟩

set_option maxRecDepth 100000 in
set_option maxHeartbeats 1600000 in
theorem implConsImply_any (w : World) (B : Nat) (A : Option Addr) (n c : Nat) (l : List Cn) (U R V : Int) (hB : B ≤ w.heap.size) (hl : ConR w B A n l) (hn : (n : Int) ≤ 140737488355328) :
    Calls Tryz.prog 25 #[.slice A n c, .agg #[.int .i64 U, .int .i64 R, .int .i64 V]] w fun e w' => e = .returned (.bool (impR l (U, R, V))) ∧ Below w.heap.size w w' := by
  have hz := zeros_tab
  obtain ⟨W0, hW0⟩ : ∃ W, w.alloc (.cells #[.int .i64 U, .int .i64 R, .int .i64 V] 41) = W := ⟨_, rfl⟩
  have hb0 : Below w.heap.size w W0 := by rw [← hW0]; exact (Below.refl _ _).alloc (Nat.le_refl _) _
  have hs0 : w.heap.size < W0.heap.size := by rw [← hW0]; simp
  have HX : Hid (Blk W0 w.heap.size 41 #[.int .i64 U, .int .i64 R, .int .i64 V]) := by show Blk _ _ _ _; rw [← hW0]; exact Blk.made _ _ _
  have HL := Lib.hid (hl.below (hb0.mono hB))
  have HB0 := Lib.hid hb0
  clear hl hb0
  go_enter Tryz.func25, Tryz.ntmps25
  go_wp2_with fail
  refine (pathsOf_any W0 B A n c l (by omega) HL.out hn).mono ?_
  rintro e w1 ⟨rfl, hb1⟩
  obtain ⟨T, hT⟩ : ∃ T, pathT l = T := ⟨_, rfl⟩
  rw [hT]
  have HT := Lib.hid hT
  clear hT
  obtain ⟨W1, hW1⟩ : ∃ W, w1.alloc (.cells (tabA zeroT) 85) = W := ⟨_, rfl⟩
  have c1 : Blk W1 w1.heap.size 85 (tabA zeroT) := by rw [← hW1]; exact Blk.made _ _ _
  obtain ⟨S, hS⟩ : ∃ S, w1.heap.size = S := ⟨_, rfl⟩
  rw [hS] at c1
  obtain ⟨W2, hW2⟩ : ∃ W, W1.setRow S (tabA T) = W := ⟨_, rfl⟩
  have c2 : Blk W2 S 85 (tabA T) := by rw [← hW2]; exact BlkT.lay c1 T
  have hSw : w.heap.size < S := by have := hb1.size; omega
  have HB2 : Hid (Below w.heap.size w W2) := by
    show Below _ _ _
    have q1 : Below w1.heap.size w1 W1 := by rw [← hW1]; exact (Below.refl _ _).alloc (Nat.le_refl _) _
    have := q1.size
    have := hb1.size
    rw [← hW2]
    exact (Wrote.row _ _ _).below (HB0.out.trans (hb1.mono (by omega)) |>.trans (q1.mono (by omega))) (by omega) (by omega)
  have HX2 : Hid (Blk W2 w.heap.size 41 #[.int .i64 U, .int .i64 R, .int .i64 V]) := by
    show Blk _ _ _ _
    have q1 : Below w1.heap.size w1 W1 := by rw [← hW1]; exact (Below.refl _ _).alloc (Nat.le_refl _) _
    rw [← hW2]
    exact (Wrote.row _ _ _).blk (Blk.below (Blk.below HX.out hb1 hs0) q1 (by omega)) (by omega)
  have y0 : W2.cell? ⟨w.heap.size, 0, none⟩ = some (.int .i64 U) := HX2.out.cell 0
  have y1 : W2.cell? ⟨w.heap.size, 1, none⟩ = some (.int .i64 R) := HX2.out.cell 1
  have y2 : W2.cell? ⟨w.heap.size, 2, none⟩ = some (.int .i64 V) := HX2.out.cell 2
  clear hb1 hW0
  cases h1 : satR l with
  | false =>
    have HF : Hid (impR l (U, R, V) = false) := by show _ = _; unfold impR; rw [h1, Bool.false_and, Bool.false_and]
    clear h1
    go_wp2_with (refine wpList_store_row rfl 85 _ _ rfl S (tabA T) rfl rfl 85 (tabA zeroT) c1 (size_tab T) rfl (tabA_one T) ?_)
    go_ret
    exact ⟨by rw [HF.out]; rfl, HB2.out⟩
  | true =>
    have H1 := Lib.hid h1
    clear h1
    go_wp2_with (refine wpList_store_row rfl 85 _ _ rfl S (tabA T) rfl rfl 85 (tabA zeroT) c1 (size_tab T) rfl (tabA_one T) ?_)
    refine (implConOk_any W2 U R V).mono ?_
    rintro e w3 ⟨rfl, hb3⟩
    have HB3 := Lib.hid (HB2.out.trans (hb3.mono HB2.out.size))
    have HX3 := Lib.hid (Blk.below HX2.out hb3 HX2.out.lt)
    have z0 : w3.cell? ⟨w.heap.size, 0, none⟩ = some (.int .i64 U) := HX3.out.cell 0
    have z1 : w3.cell? ⟨w.heap.size, 1, none⟩ = some (.int .i64 R) := HX3.out.cell 1
    have z2 : w3.cell? ⟨w.heap.size, 2, none⟩ = some (.int .i64 V) := HX3.out.cell 2
    have c3 := Blk.below c2 hb3 c2.lt
    clear hb3 y0 y1 y2 c1 c2 hW1 hW2 hS
    cases h2 : Cs.cOk (U, R, V) with
    | false =>
      have HF : Hid (impR l (U, R, V) = false) := by show _ = _; unfold impR; rw [H1.out, h2, Bool.true_and, Bool.false_and]
      clear h2
      go_wp2
      go_ret
      exact ⟨by rw [HF.out]; rfl, HB3.out⟩
    | true =>
      have ho := (Cs.cOk_iff _).1 h2
      obtain ⟨u, hu⟩ : ∃ u : Nat, U + 1 = u := ⟨(U + 1).toNat, by have := ho.1.1; have h : -1 ≤ U := this; omega⟩
      obtain ⟨v, hv⟩ : ∃ v : Nat, V + 1 = v := ⟨(V + 1).toNat, by have := ho.2.1.1; have h : -1 ≤ V := this; omega⟩
      have hu6 : u < 6 := by have := ho.1.2; have h : U < 5 := this; omega
      have hv6 : v < 6 := by have := ho.2.1.2; have h : V < 5 := this; omega
      have HF : Hid (impR l (U, R, V) = impT T u v R) := by
        show _ = _
        unfold impR
        rw [H1.out, h2, Bool.true_and, Bool.true_and, ← HT.out, pathT_yes H1.out]
        exact (impT_imp hu hv ho.2.2.1 ho.2.2.2).symm
      have HU := Lib.hid hu
      have HV := Lib.hid hv
      clear h2 ho hu hv
      go_wp2_with (refine wpList_load_row_g rfl 85 _ rfl S rfl 85 (tabA T) (0, 0) _ c3 Tryz.underlying85 rfl (size_tab T) ?_)
      refine (implies_any w3 T U R V u v HU.out hu6 HV.out hv6).mono ?_
      rintro e w4 ⟨rfl, hb4⟩
      have HB4 := Lib.hid (HB3.out.trans (hb4.mono HB3.out.size))
      clear hb4
      rw [← HF.out]
      go_wp2
      go_ret
      exact ⟨rfl, HB4.out⟩
end Go.Proofs.YtgebjnoicgmdoaaGreatDoor

namespace Go.Proofs.YtgebjnoicgmdoaaGreatDoor
open Go.RowKit
open Cs (Cn Tb)

set_option maxRecDepth 100000 in
set_option maxHeartbeats 4000000 in
theorem leaveThin_any (w : World) (B : Nat) (A : Option Addr) (n c : Nat) (l : List Cn) (canB : List Cn → Cn → Bool) (GT : Nat → Nat → Bool) (hB : B ≤ w.heap.size) (hl : ConR w B A n l) (hok : Cs.ok l) (hn : n ≤ 24)
    (hcan : ∀ (w2 : World) (g2 c2 : Nat) (l2 : List Cn) (U R V : Int), ConR w2 w2.heap.size (some ⟨g2, 0, none⟩) l2.length l2 → Cs.ok l2 → l2.length ≤ 24 → Calls Tryz.prog 25 #[.slice (some ⟨g2, 0, none⟩) l2.length c2, .agg #[.int .i64 U, .int .i64 R, .int .i64 V]] w2 fun e w' => e = .returned (.bool (canB l2 (U, R, V))) ∧ Below w2.heap.size w2 w')
    (h0 : GT 0 = fun _ => false) (hlate : ∀ k, GT k k = false)
    (hyes : ∀ k, k < n → canB (Cs.skip l (Cs.mark (GT k) k true)) (l.getD k (0, 0, 0)) = true → GT (k + 1) = Cs.mark (GT k) k true)
    (hno : ∀ k, k < n → canB (Cs.skip l (Cs.mark (GT k) k true)) (l.getD k (0, 0, 0)) = false → GT (k + 1) = GT k) :
    Calls Tryz.prog 70 #[.slice A n c, .func (.func 25) #[] #[]] w fun e w' => ∃ g2 c2, e = .returned (.slice (some ⟨g2, 0, none⟩) (Cs.keptI l (GT n)).length c2) ∧ OwnI w' w.heap.size (some ⟨g2, 0, none⟩) (Cs.keptI l (GT n)).length c2 (natI (Cs.keptI l (GT n))) ∧ Below w.heap.size w w' := by
  have hmf : ∀ (fn : Fn) (first cap : Array Value) (w : World), (Instr.makeFunc fn first cap).run Tryz.prog w = .ok (.func fn first cap) w := fun _ _ _ _ => rfl
  have hmk := make_ints n (by omega)
  have HS0 : Hid (OwnI (w.alloc (.cells (madeCells #[Value.int .i64 0] n) 3)) w.heap.size (some ⟨w.heap.size, 0, none⟩) n n (countL n 0)) := own_whole (Blk.made w _ _) (Nat.le_refl _) (by omega) (by rw [countL_made]) (by simp [countL])
  have HB0 : Hid (Below w.heap.size w (w.alloc (.cells (madeCells #[Value.int .i64 0] n) 3))) := (Below.refl _ _).alloc (Nat.le_refl _) _
  have HL := Lib.hid hl
  have HOK := Lib.hid hok
  have HCAN := Lib.hid hcan
  have HYES := Lib.hid hyes
  have HNO := Lib.hid hno
  have HLATE := Lib.hid hlate
  have H0 := Lib.hid h0
  clear hl hok hcan hyes hno hlate h0
  go_enter Tryz.func70, Tryz.ntmps70
  go_wp2
  clear hmk
  go_loopw [15] (fun i wr => ∃ k : Nat, k ≤ n ∧ i = .int .i64 k ∧ Hid (OwnI wr w.heap.size (some ⟨w.heap.size, 0, none⟩) n n (countL n k)) ∧ Hid (Below w.heap.size w wr)) (fun i _ => n - (intOf i).toNat)
  case atStart => exact ⟨0, by omega, rfl, HS0.out, HB0.out⟩
  case round =>
    clear HS0 HB0
    obtain ⟨k, hk, rfl, HO, HB⟩ := hrel
    by_cases hkn : k < n
    · have hki : (k : Int) < (n : Int) := by omega
      obtain ⟨z0, k2, k3⟩ : ∃ z0, wr.cell? ⟨w.heap.size, k, none⟩ = some z0 ∧ wr.frozen? ⟨w.heap.size, k, none⟩ = false := ⟨_, own_spot HO.out (i := k) (u := .int .i64 ((countL n k).getD k 0)) (by
        have h' : k < (countL n k).length := by rw [countL_len]; exact hkn
        rw [List.getElem?_map, List.getElem?_eq_getElem h', List.getD_eq_getElem?_getD, List.getElem?_eq_getElem h']; rfl)⟩
      have HO2 : Hid (OwnI (wr.setCell ⟨w.heap.size, k, none⟩ (.int .i64 (k : Int))) w.heap.size (some ⟨w.heap.size, 0, none⟩) n n (countL n (k + 1))) := by
        have := own_set HO.out k (.int .i64 (k : Int))
        rw [← List.map_set, countL_set] at this
        exact this
      have HB2 : Hid (Below w.heap.size w (wr.setCell ⟨w.heap.size, k, none⟩ (.int .i64 (k : Int)))) := HB.out.setCell (p := ⟨w.heap.size, k, none⟩) (Nat.le_refl _) _
      go_wp2
      go_roundw
      case rel => exact ⟨k + 1, by omega, by go_num, HO2.out, HB2.out⟩
      case measure => simp [intOf]; omega
    · have hki : ¬ (k : Int) < (n : Int) := by omega
      have HX0 : Hid (OwnI wr w.heap.size (some ⟨w.heap.size, 0, none⟩) (Cs.keptI l (GT 0)).length n (natI (Cs.keptI l (GT 0)))) := by
        show OwnI _ _ _ _ _ _
        have h := HO.out
        obtain rfl : k = n := by omega
        rw [H0.out, Cs.kept_none, List.length_range, HL.out.1, ← countL_all]
        exact h
      have HN0 : Hid ((Cs.keptI l (GT 0)).length = n) := by show _ = _; rw [H0.out, Cs.kept_none, List.length_range]; exact HL.out.1
      rw [HN0.out] at HX0
      clear HO
      go_wp2
      go_loopw [25, 5] (fun i v wr => ∃ (q m g2 c2 : Nat), q ≤ n ∧ i = .int .i64 q ∧ v = .slice (some ⟨g2, 0, none⟩) m c2 ∧ Hid ((Cs.keptI l (GT q)).length = m) ∧ Hid (OwnI wr w.heap.size (some ⟨g2, 0, none⟩) m c2 (natI (Cs.keptI l (GT q)))) ∧ Hid (Below w.heap.size w wr)) (fun i _ _ => n - (intOf i).toNat)
      case atStart => exact ⟨0, n, w.heap.size, n, by omega, rfl, rfl, HN0.out, HX0.out, HB.out⟩
      case round =>
        clear HX0 HN0 HB
        obtain ⟨q, m, g2, c2, hq, rfl, rfl, HM, HO, HB⟩ := hrel
        have hszr := HB.out.size
        have hmn : m ≤ n := by rw [← HM.out, ← HL.out.1]; exact Cs.kept_len l (GT q)
        by_cases hqn : q < n
        · have hqi : (q : Int) < (n : Int) := by omega
          obtain ⟨b, off, hA, hb, hc⟩ := HL.out.2 (by omega)
          obtain ⟨x1, x2, x3⟩ := hc q hqn
          obtain ⟨t, ht⟩ : ∃ t, l.getD q (0, 0, 0) = t := ⟨_, rfl⟩
          rw [ht] at x1 x2 x3
          obtain ⟨U, R, V⟩ := t
          have HT := Lib.hid ht
          subst hA
          have k1 := (HB.out.cell (p := ⟨b, off + q * 3, none⟩) (by show b < _; omega)).trans x1
          have k2 := (HB.out.cell (p := ⟨b, off + q * 3 + 1, none⟩) (by show b < _; omega)).trans x2
          have k3 := (HB.out.cell (p := ⟨b, off + q * 3 + 2, none⟩) (by show b < _; omega)).trans x3
          obtain ⟨W1, hW1⟩ : ∃ W1, (wr.alloc (.cells #[.int .i64 (q : Int)] 3)).alloc (.cells #[.int .i64 U, .int .i64 R, .int .i64 V] 41) = W1 := ⟨_, rfl⟩
          have hs1 : W1.heap.size = wr.heap.size + 2 := by rw [← hW1]; simp
          have hb1 : Below wr.heap.size wr W1 := by rw [← hW1]; exact ((Below.refl _ _).alloc (Nat.le_refl _) _).alloc (by simp) _
          have hbi : Blk W1 wr.heap.size 3 #[.int .i64 (q : Int)] := by rw [← hW1]; exact Blk.below (Blk.made wr _ _) ((Below.refl _ _).alloc (Nat.le_refl _) _) (by simp)
          have hbc : Blk W1 (wr.heap.size + 1) 41 #[.int .i64 U, .int .i64 R, .int .i64 V] := by
            have h1 : Blk ((wr.alloc (.cells #[.int .i64 (q : Int)] 3)).alloc (.cells #[.int .i64 U, .int .i64 R, .int .i64 V] 41)) (wr.alloc (.cells #[.int .i64 (q : Int)] 3)).heap.size 41 #[.int .i64 U, .int .i64 R, .int .i64 V] := Blk.made _ _ _
            rw [show (wr.alloc (.cells #[.int .i64 (q : Int)] 3)).heap.size = wr.heap.size + 1 by simp] at h1
            rw [← hW1]
            exact h1
          have HO1 := Lib.hid (own_below' HO.out hb1)
          have HB1 := Lib.hid (HB.out.trans (hb1.mono hszr))
          have HBI := Lib.hid hbi
          have HBC := Lib.hid hbc
          clear hc ht x1 x2 x3 hb1 hbi hbc
          obtain ⟨j, hj, hjx, hju⟩ := kept_place (l := l) (g := GT q) (k := q) (by rw [HL.out.1]; exact hqn) (HLATE.out q)
          rw [HM.out] at hj
          have HER := Lib.hid (kept_erase (by rw [HM.out]; exact hj) hjx hju)
          have HJX := Lib.hid hjx
          have HJU := Lib.hid hju
          clear hjx hju
          go_wp2_with fail
          refine (cloneI_any W1 g2 m c2 w.heap.size (natI (Cs.keptI l (GT q))) HO1.out (by omega)).mono ?_
          rintro e w2 ⟨g3, c3, rfl, ho2, hb2⟩
          have hg3 := (ho2.lt g3 rfl).1
          have hs2 := hb2.size
          have hbi2 := Blk.below HBI.out hb2 (by omega)
          have HBC2 := Lib.hid (Blk.below HBC.out hb2 (by omega))
          have HO2 := Lib.hid (own_below' HO1.out hb2)
          have HB2 := Lib.hid (HB1.out.trans (hb2.mono HB1.out.size))
          have HDEL := Lib.hid (deleteI_any w2 g3 m c3 W1.heap.size wr.heap.size (natI (Cs.keptI l (GT q))) (q : Int) j ho2 (by omega) (hbi2.cell 0) (by omega) hj HJX.out (fun i hi hne => HJU.out i (by rw [HM.out]; exact hi) hne))
          have hg2 := (HO1.out.lt g2 rfl).2
          clear ho2 hb2 hbi2
          go_wp2_with fail
          refine HDEL.out.mono ?_
          rintro e w3 ⟨rfl, ho3, hw3⟩
          rw [HER.out] at ho3
          obtain ⟨G, hG⟩ : ∃ G, Cs.mark (GT q) q true = G := ⟨_, rfl⟩
          rw [hG] at ho3
          have HG := Lib.hid hG
          have HM3 : Hid ((Cs.keptI l G).length = m - 1) := by have h := ho3.1; rw [List.length_map, natI_len, Nat.mul_one] at h; exact h
          have HO3 := Lib.hid ho3
          have HO3L : Hid (OwnI w3 w.heap.size (some ⟨g2, 0, none⟩) m c2 (natI (Cs.keptI l (GT q)))) := HO2.out.kept hw3.1 (.inr (fun e => by have h : some g2 = some g3 := e; injection h with h; omega))
          have HBC3 : Hid (Blk w3 (wr.heap.size + 1) 41 #[.int .i64 U, .int .i64 R, .int .i64 V]) := hw3.blk HBC2.out (by omega)
          have hs3 := hw3.2
          have HB3 : Hid (Below w.heap.size w w3) := hw3.below HB2.out HB2.out.size (by omega)
          have y0 : w3.cell? ⟨wr.heap.size + 1, 0, none⟩ = some (.int .i64 U) := HBC3.out.cell 0
          have y1 : w3.cell? ⟨wr.heap.size + 1, 1, none⟩ = some (.int .i64 R) := HBC3.out.cell 1
          have y2 : w3.cell? ⟨wr.heap.size + 1, 2, none⟩ = some (.int .i64 V) := HBC3.out.cell 2
          have HPK : Hid (Calls Tryz.prog 69 #[.slice (some ⟨b, off, none⟩) n c, .slice (some ⟨g3, 0, none⟩) (m - 1) c3] w3.drew fun e w' => ∃ g4 c4, e = .returned (.slice (some ⟨g4, 0, none⟩) (m - 1) c4) ∧ OwnC w' w3.heap.size (some ⟨g4, 0, none⟩) (m - 1) c4 (Cs.skip l G) ∧ Below w3.heap.size w3 w') := by
            refine (picked_any w3.drew B (some ⟨b, off, none⟩) n c l (some ⟨g3, 0, none⟩) (m - 1) c3 (Cs.keptI l G) (by have := HB3.out.size; show B ≤ w3.heap.size; omega) ((HL.out.below (HB3.out.mono hB)).keep fun _ _ => rfl) w3.heap.size (Nat.le_refl _) ((OwnI.reads HO3.out).keep fun _ _ => rfl) (fun i hi => by rw [← HL.out.1]; exact Cs.kept_lt hi) (by omega) (by omega)).mono ?_
            rintro e w4 ⟨g4, c4, rfl, h1, h2⟩
            exact ⟨g4, c4, rfl, by rw [Cs.skip_eq]; exact h1, ⟨h2.os, h2.tape, h2.output, h2.size, h2.block⟩⟩
          have HSL : Hid ((Cs.skip l G).length = m - 1) := by show _ = _; rw [Cs.skip_eq, pickC_len]; exact HM3.out
          clear hG ho3 hw3 hW1
          go_wp2_with fail
          go_region_held3 (fun w' => w'.cell? ⟨wr.heap.size + 1, 0, none⟩ = some (.int .i64 U) ∧ w'.cell? ⟨wr.heap.size + 1, 1, none⟩ = some (.int .i64 R) ∧ w'.cell? ⟨wr.heap.size + 1, 2, none⟩ = some (.int .i64 V))
            (first
              | go_keep
              | exact ⟨HBC4.out.cell 0, HBC4.out.cell 1, HBC4.out.cell 2⟩
              | exact ⟨HBC5.out.cell 0, HBC5.out.cell 1, HBC5.out.cell 2⟩)
            (first
              | (go_at_call 69
                 refine HPK.out.mono ?_
                 rintro e w4 ⟨g4, c4, rfl, ho4, hb4⟩
                 have HBC4 : Hid (Blk w4 (wr.heap.size + 1) 41 #[.int .i64 U, .int .i64 R, .int .i64 V]) := Blk.below HBC3.out hb4 HBC3.out.lt
                 have hr4 : ConR w4 w4.heap.size (some ⟨g4, 0, none⟩) (m - 1) (Cs.skip l G) := OwnC.reads ho4
                 rw [← HSL.out] at hr4)
              | (go_at_call 25
                 rw [← HSL.out]
                 refine (HCAN.out w4 g4 c4 (Cs.skip l G) U R V hr4 (Cs.skip_ok HOK.out G) (by rw [HSL.out]; omega)).mono ?_
                 rintro e w5 ⟨rfl, hb5⟩
                 have HBC5 : Hid (Blk w5 (wr.heap.size + 1) 41 #[.int .i64 U, .int .i64 R, .int .i64 V]) := Blk.below HBC4.out hb5 HBC4.out.lt))
          have HB5 : Hid (Below w.heap.size w w5) := (HB3.out.trans (hb4.mono HB3.out.size)).trans (hb5.mono (Nat.le_trans HB3.out.size hb4.size))
          have HO5 := Lib.hid (own_below' (own_below' HO3L.out hb4) hb5)
          have HN5 := Lib.hid (own_base (own_below' (own_below' HO3.out hb4) hb5) (base' := w.heap.size) HB1.out.size)
          clear ho4 hb4 hb5 hr4 HBC4 HBC5 y0 y1 y2
          cases hcb : canB (Cs.skip l G) (U, R, V) with
          | true =>
            have HNX : Hid (GT (q + 1) = G) := by show _ = _; rw [← HG.out]; exact HYES.out q hqn (by rw [HG.out, HT.out]; exact hcb)
            clear hcb
            go_wp2
            go_roundw
            case rel => exact ⟨q + 1, m - 1, g3, c3, by omega, by go_num, by rw [HSL.out], by rw [HNX.out]; exact HM3.out, by rw [HNX.out]; exact HN5.out, HB5.out⟩
            case measure => simp [intOf]; omega
          | false =>
            have HNX : Hid (GT (q + 1) = GT q) := HNO.out q hqn (by rw [HG.out, HT.out]; exact hcb)
            clear hcb
            go_wp2
            go_roundw
            case rel => exact ⟨q + 1, m, g2, c2, by omega, by go_num, rfl, by rw [HNX.out]; exact HM.out, by rw [HNX.out]; exact HO5.out, HB5.out⟩
            case measure => simp [intOf]; omega
        · have hqi : ¬ (q : Int) < (n : Int) := by omega
          have HE : Hid (q = n) := by show q = n; omega
          go_wp2
          go_ret
          refine ⟨g2, c2, ?_, ?_, HB.out⟩
          · rw [← HE.out, HM.out]; rfl
          · rw [← HE.out, HM.out]; exact HO.out
end Go.Proofs.YtgebjnoicgmdoaaGreatDoor

namespace Go.Proofs.YtgebjnoicgmdoaaGreatDoor
open Go.RowKit
open Cs (Cn Tb)

theorem mark_back {g : Nat → Bool} {k : Nat} (h : g k = false) : Cs.mark g k false = g := by
  funext x
  unfold Cs.mark
  by_cases hx : x = k
  · rw [if_pos hx, hx, h]
  · rw [if_neg hx]
set_option maxRecDepth 100000 in
set_option maxHeartbeats 1600000 in
theorem implConsThin_any (w : World) (B : Nat) (A : Option Addr) (n c : Nat) (l : List Cn) (hB : B ≤ w.heap.size) (hl : ConR w B A n l) (hn : (n : Int) ≤ 140737488355328) :
    Calls Tryz.prog 24 #[.slice A n c] w (ResC w (thinO l)) := by
  have HL := Lib.hid hl
  clear hl
  go_enter Tryz.func24, Tryz.ntmps24
  go_wp2_with fail
  refine (implConsSat_any w B A n c l hB HL.out hn).mono ?_
  rintro e w1 ⟨rfl, hb1⟩
  have HB1 := Lib.hid hb1
  have hs1 := hb1.size
  clear hb1
  cases h1 : satR l with
  | false =>
    have HF := Lib.hid (thinO_no h1)
    clear h1
    go_wp2
    go_ret2
    rw [HF.out]
    exact resC_none HB1.out
  | true =>
    have H1 := Lib.hid h1
    have HF := Lib.hid (thinO_yes h1)
    have hn24 : n ≤ 24 := by have := (consOkR_ok (satR_cons h1)).2; rw [HL.out.1] at this; exact this
    clear h1
    go_wp2_with fail
    refine (leaveThin_any w1 B A n c l impR (Cs.thinTo l) (by omega) (HL.out.below (HB1.out.mono hB)) (satR_parts H1.out).1 hn24 (fun w2 g2 c2 l2 U R V h1 _ h3 => implConsImply_any w2 w2.heap.size (some ⟨g2, 0, none⟩) l2.length c2 l2 U R V (Nat.le_refl _) h1 (by omega)) rfl (fun k => Cs.thinTo_late l k k (Nat.le_refl _))
      (fun k hk h => by rw [← thin_next H1.out (by rw [HL.out.1]; exact hk), h]) (fun k hk h => by rw [← thin_next H1.out (by rw [HL.out.1]; exact hk), h, mark_back (Cs.thinTo_late l k k (Nat.le_refl _))])).mono ?_
    rintro e w2 ⟨g2, c2, rfl, ho2, hb2⟩
    have HB2 := Lib.hid (HB1.out.trans (hb2.mono hs1))
    have hs2 := HB2.out.size
    have HR2 := Lib.hid (OwnI.reads ho2)
    have HS : Hid (Cs.skip l (Cs.thinTo l n) = Cs.pickC l (Cs.keptI l (Cs.thinTo l n))) := Cs.skip_eq _ _
    have hkl := Cs.kept_len l (Cs.thinTo l n)
    rw [HL.out.1] at HF hkl
    obtain ⟨m, hm⟩ : ∃ m, (Cs.keptI l (Cs.thinTo l n)).length = m := ⟨_, rfl⟩
    rw [hm] at HR2 hkl ⊢
    have HM : Hid ((Cs.skip l (Cs.thinTo l n)).length = m) := by show _ = _; rw [HS.out, pickC_len]; exact hm
    clear ho2 hb2 hm
    go_wp2_with fail
    refine (picked_any w2 B A n c l (some ⟨g2, 0, none⟩) m c2 (Cs.keptI l (Cs.thinTo l n)) (by omega) (HL.out.below (HB2.out.mono hB)) w2.heap.size (Nat.le_refl _) HR2.out (fun i hi => by rw [← HL.out.1]; exact Cs.kept_lt hi) (by omega) (by omega)).mono ?_
    rintro e w3 ⟨g3, c3, rfl, ho3, hb3⟩
    have HB3 := Lib.hid (HB2.out.trans (hb3.mono hs2))
    have HO3 := Lib.hid (own_base ho3 hs2)
    rw [← HS.out] at HO3
    clear ho3 hb3
    go_wp2
    go_ret2
    rw [HF.out]
    refine ⟨some ⟨g3, 0, none⟩, c3, ?_, ?_, HB3.out⟩
    · show _ = Ending.returned (.tuple #[.slice (some ⟨g3, 0, none⟩) (Cs.skip l (Cs.thinTo l n)).length c3, .bool true])
      rw [HM.out]; rfl
    · show OwnC _ _ _ (Cs.skip l (Cs.thinTo l n)).length _ (Cs.skip l (Cs.thinTo l n))
      rw [HM.out]; exact HO3.out
end Go.Proofs.YtgebjnoicgmdoaaGreatDoor
