/- The program's table of edges: edgesOf. -/
/- Two tables compared; the atomic counter; a table and a bool as results. -/
import Derived.Test.YtfmhmnpmdjpmeaaPtExt
import Derived.ChangeKeysEq
import Derived.Laws.StructEq
import Derived.Laws.LoneSync

namespace Go.Proofs.Ytfmhmnpmdjpmeaa
open Go.RowKit
open Cs (Cn Tb)

/-- the table behind the first m places -/
def edgeT (m : Nat) : Tb := fun a b => if a * 6 + b < m ∧ b < 6 ∧ a ≠ b ∧ a ≠ 0 then -1 else 0
theorem edgeT_zero : tabA (edgeT 0) = tabA zeroT := tabA_same.2 fun a b _ _ => by
  unfold edgeT zeroT
  rw [if_neg (by omega)]
theorem edgeT_all : tabA (edgeT 36) = tabA Cs.base := tabA_same.2 fun a b ha hb => by
  unfold edgeT Cs.base
  by_cases h : a = b ∨ a = 0
  · rw [if_neg (by omega), if_pos h]
  · rw [if_pos (by omega), if_neg h]
theorem edgeT_put {k j : Nat} (_ : k < 6) (hj : j < 6) (h1 : k ≠ j) (h2 : k ≠ 0) : tabA (Cs.put (edgeT (k * 6 + j)) k j (-1)) = tabA (edgeT (k * 6 + (j + 1))) := tabA_same.2 fun a b ha hb => by
  simp only [edgeT, Cs.put]
  by_cases e : a = k ∧ b = j
  · rw [if_pos e, if_pos (by omega)]
  · rw [if_neg e]
    by_cases c : a * 6 + b < k * 6 + j ∧ b < 6 ∧ a ≠ b ∧ a ≠ 0
    · rw [if_pos c, if_pos (by omega)]
    · rw [if_neg c, if_neg (by omega)]
theorem edgeT_not {k j : Nat} (_ : k < 6) (hj : j < 6) (h : k = j ∨ k = 0) : tabA (edgeT (k * 6 + j)) = tabA (edgeT (k * 6 + (j + 1))) := tabA_same.2 fun a b ha hb => by
  unfold edgeT
  by_cases c : a * 6 + b < k * 6 + j ∧ b < 6 ∧ a ≠ b ∧ a ≠ 0
  · rw [if_pos c, if_pos (by omega)]
  · rw [if_neg c, if_neg (by omega)]
theorem node_of' {U : Int} {u : Nat} (h : U + 1 = u) : Cs.node U = u := by unfold Cs.node; omega
theorem addC_not2 {d : Tb} {U V R : Int} {u v : Nat} (hu : U + 1 = u) (hv : V + 1 = v) (h : R ≠ 2) : Cs.addC d (U, R, V) = Cs.put d u v (max (d u v) (if R = 1 then 1 else 0)) := by
  unfold Cs.addC Cs.add1
  simp only [if_neg h, node_of' hu, node_of' hv]
theorem addC_is2 {d : Tb} {U V : Int} {u v : Nat} (hu : U + 1 = u) (hv : V + 1 = v) : Cs.addC d (U, 2, V) = Cs.put (Cs.put d u v (max (d u v) 0)) v u (max (Cs.put d u v (max (d u v) 0) v u) 0) := by
  unfold Cs.addC Cs.add1
  simp [node_of' hu, node_of' hv]
theorem start_next {l : List Cn} {m : Nat} {t : Cn} {d0 d d2 : Tb} (hm : m < l.length) (ht : l.getD m (0, 0, 0) = t) (h : d0 = (l.drop m).foldl Cs.addC d) (h2 : Cs.addC d t = d2) : d0 = (l.drop (m + 1)).foldl Cs.addC d2 := by
  rw [h, List.drop_eq_getElem_cons hm, List.foldl_cons, ← h2, ← ht, List.getD_eq_getElem?_getD, List.getElem?_eq_getElem hm]
  rfl
/-- the walk's memory: the result's table, the one that is filled -/
structure EdgW (w : World) (cs : Array Value) (wr : World) : Prop where
  b0 : Blk wr w.heap.size 132 (tabA zeroT)
  b1 : Blk wr (w.heap.size + 1) 132 cs
  bel : Below w.heap.size w wr
theorem EdgW.lt {w wr : World} {cs : Array Value} (h : EdgW w cs wr) : w.heap.size + 2 ≤ wr.heap.size := h.b1.lt
theorem EdgW.put {w wr : World} {d : Tb} (h : EdgW w (tabA d) wr) {i j : Nat} (hi : i < 6) (hj : j < 6) (x : Int) : EdgW w (tabA (Cs.put d i j x)) (wr.setCell ⟨w.heap.size + 1, i * 6 + j, none⟩ (.int .i64 x)) := by
  have hw : Wrote (w.heap.size + 1) wr (wr.setCell ⟨w.heap.size + 1, i * 6 + j, none⟩ (.int .i64 x)) := Wrote.set _ _
  exact ⟨hw.blk h.b0 (by omega), BlkT.put h.b1 hi hj x, hw.below h.bel h.bel.size (by omega)⟩
theorem EdgW.later {w wr w' : World} {cs : Array Value} (h : EdgW w cs wr) (hb : Below wr.heap.size wr w') : EdgW w cs w' := ⟨Blk.below h.b0 hb h.b0.lt, Blk.below h.b1 hb h.b1.lt, h.bel.trans (hb.mono h.bel.size)⟩
theorem EdgW.wrote {w wr w' : World} {cs cs' : Array Value} (h : EdgW w cs wr) (hw : Wrote (w.heap.size + 1) wr w') (hb : Blk w' (w.heap.size + 1) 132 cs') : EdgW w cs' w' := ⟨hw.blk h.b0 (by omega), hb, hw.below h.bel h.bel.size (by omega)⟩

set_option maxRecDepth 100000 in
set_option maxHeartbeats 4000000 in
theorem edgesOf_any (w : World) (B : Nat) (A : Option Addr) (n c : Nat) (l : List Cn) (hB : B ≤ w.heap.size) (hl : ConR w B A n l) (hok : Cs.ok l) (hn : n ≤ 1000) :
    Calls Try.prog 108 #[.slice A n c] w fun e w' => e = .returned (tabV (Cs.start l)) ∧ Below w.heap.size w w' := by
  obtain ⟨W2, hW2⟩ : ∃ W, (w.alloc (.cells (tabA zeroT) 132)).alloc (.cells (tabA zeroT) 132) = W := ⟨_, rfl⟩
  have hz := zeros_tab
  have HX0 : Hid (EdgW w (tabA (edgeT (0 * 6))) W2) := by
    have h1 : Blk ((w.alloc (.cells (tabA zeroT) 132)).alloc (.cells (tabA zeroT) 132)) (w.alloc (.cells (tabA zeroT) 132)).heap.size 132 (tabA zeroT) := Blk.made _ _ _
    rw [show (w.alloc (.cells (tabA zeroT) 132)).heap.size = w.heap.size + 1 by simp] at h1
    refine ⟨?_, by rw [← hW2]; rw [← edgeT_zero] at h1; exact h1, ?_⟩
    · rw [← hW2]
      exact Blk.below (Blk.made w _ _) ((Below.refl _ _).alloc (Nat.le_refl _) _) (by simp)
    · rw [← hW2]
      exact ((Below.refl _ _).alloc (Nat.le_refl _) _).alloc (by simp) _
  have HOK := Lib.hid hok
  have HL := Lib.hid hl
  clear hok hl
  go_enter Try.func108, Try.ntmps108
  go_wp2
  clear hz hW2
  go_loopw [8] (fun i wr => ∃ a : Nat, a ≤ 6 ∧ i = .int .i64 a ∧ Hid (EdgW w (tabA (edgeT (a * 6))) wr)) (fun i _ => 6 - (intOf i).toNat)
  case atStart => exact ⟨0, by omega, rfl, HX0.out⟩
  case round =>
    clear HX0
    obtain ⟨a, ha, rfl, HX⟩ := hrel
    by_cases hal : a < 6
    · have hai : (a : Int) < 6 := by omega
      have ha0 : 0 ≤ (a : Int) := by omega
      go_wp2
      go_loopw [11] (fun i wr => ∃ j : Nat, j ≤ 6 ∧ i = .int .i64 j ∧ Hid (EdgW w (tabA (edgeT (a * 6 + j))) wr)) (fun i _ => 6 - (intOf i).toNat)
      case atStart => exact ⟨0, by omega, rfl, HX.out⟩
      case round =>
        clear HX
        obtain ⟨j, hj, rfl, HX⟩ := hrel
        by_cases hjl : j < 6
        · have hji : (j : Int) < 6 := by omega
          have hj0 : 0 ≤ (j : Int) := by omega
          by_cases e1 : a = j
          · have HN := Lib.hid (edgeT_not hal hjl (.inl e1))
            have d1 : ((a : Int) != (j : Int)) = false := by simp [e1]
            clear e1
            go_wp2
            go_roundw
            case rel => exact ⟨j + 1, by omega, by go_num, by rw [← HN.out]; exact HX.out⟩
            case measure => simp [intOf]; omega
          · have d1 : ((a : Int) != (j : Int)) = true := by simp; omega
            by_cases e2 : a = 0
            · have HN := Lib.hid (edgeT_not hal hjl (.inr e2))
              have d2 : ((a : Int) != 0) = false := by simp [e2]
              clear e1 e2
              go_wp2_with fail
              refine (place_any wr (-1) 0 (by omega) (by omega)).mono ?_
              rintro e w1 ⟨rfl, rfl⟩
              go_wp2
              go_roundw
              case rel => exact ⟨j + 1, by omega, by go_num, by rw [← HN.out]; exact HX.out⟩
              case measure => simp [intOf]; omega
            · have HN := Lib.hid (edgeT_put hal hjl e1 e2)
              have d2 : ((a : Int) != 0) = true := by simp; omega
              have k1 := BlkT.spot HX.out.b1 hal hjl
              have k2 := BlkT.thawed HX.out.b1 (a * 6 + j)
              have HP := Lib.hid (HX.out.put hal hjl (-1))
              rw [HN.out] at HP
              clear e1 e2
              go_wp2_with fail
              refine (place_any wr (-1) 0 (by omega) (by omega)).mono ?_
              rintro e w1 ⟨rfl, rfl⟩
              go_wp2
              go_roundw
              case rel => exact ⟨j + 1, by omega, by go_num, HP.out⟩
              case measure => simp [intOf]; omega
        · obtain rfl : j = 6 := by omega
          go_wp2
          go_roundw
          case rel => exact ⟨a + 1, by omega, by go_num, by rw [show (a + 1) * 6 = a * 6 + 6 by omega]; exact HX.out⟩
          case measure => simp [intOf]; omega
    · have hai : ¬ (a : Int) < 6 := by omega
      have HX1 : Hid (EdgW w (tabA Cs.base) wr) := by
        have := HX.out
        rw [show a * 6 = 36 by omega, edgeT_all] at this
        exact this
      clear HX
      go_wp2
      go_loopw [30] (fun i wr2 => ∃ (m : Nat) (d : Tb), m ≤ n ∧ i = .int .i64 m ∧ Hid (EdgW w (tabA d) wr2) ∧ Hid (Cs.start l = (l.drop m).foldl Cs.addC d)) (fun i _ => n - (intOf i).toNat)
      case atStart => exact ⟨0, Cs.base, Nat.zero_le _, rfl, HX1.out, rfl⟩
      case round =>
        clear HX1
        obtain ⟨m, d, hm, rfl, HX, HST⟩ := hrel
        by_cases hml : m < n
        · have hmi : (m : Int) < (n : Int) := by omega
          have hszm := HX.out.bel.size
          have hlt := HX.out.lt
          obtain ⟨b, off, hA, hb, hc⟩ := HL.out.2 (by omega)
          obtain ⟨x1, x2, x3⟩ := hc m hml
          have HML : Hid (m < l.length) := by show m < l.length; rw [HL.out.1]; exact hml
          obtain ⟨t, ht⟩ : ∃ t, l.getD m (0, 0, 0) = t := ⟨_, rfl⟩
          have hcok := (Cs.cOk_iff _).1 (HOK.out (l.getD m (0, 0, 0)) (by have hml' : m < l.length := HML.out
                                                                          rw [List.getD_eq_getElem?_getD, List.getElem?_eq_getElem hml']; exact List.getElem_mem _))
          rw [ht] at x1 x2 x3 hcok
          obtain ⟨U, R, V⟩ := t
          have HT' := Lib.hid ht
          subst hA
          have k1 := (HX.out.bel.cell (p := ⟨b, off + m * 3, none⟩) (by show b < _; omega)).trans x1
          have k2 := (HX.out.bel.cell (p := ⟨b, off + m * 3 + 1, none⟩) (by show b < _; omega)).trans x2
          have k3 := (HX.out.bel.cell (p := ⟨b, off + m * 3 + 2, none⟩) (by show b < _; omega)).trans x3
          clear hc ht x1 x2 x3
          obtain ⟨⟨hU1, hU2⟩, ⟨hV1, hV2⟩, hR0, hR3⟩ := hcok
          replace hU1 : -1 ≤ U := hU1
          replace hU2 : U < 5 := hU2
          replace hV1 : -1 ≤ V := hV1
          replace hV2 : V < 5 := hV2
          obtain ⟨u, hu⟩ : ∃ u : Nat, U + 1 = u := ⟨(U + 1).toNat, by omega⟩
          obtain ⟨v, hv⟩ : ∃ v : Nat, V + 1 = v := ⟨(V + 1).toNat, by omega⟩
          have hu6 : u < 6 := by omega
          have hv6 : v < 6 := by omega
          have HU := Lib.hid hu
          have HV := Lib.hid hv
          obtain ⟨W1, hW1⟩ : ∃ W1, wr.alloc (.cells #[.int .i64 U, .int .i64 R, .int .i64 V] 78) = W1 := ⟨_, rfl⟩
          have hb1 : Below wr.heap.size wr W1 := by rw [← hW1]; exact (Below.refl _ _).alloc (Nat.le_refl _) _
          have hbx : Blk W1 wr.heap.size 78 #[.int .i64 U, .int .i64 R, .int .i64 V] := by rw [← hW1]; exact Blk.made _ _ _
          have HX1 := Lib.hid (HX.out.later hb1)
          have HBX := Lib.hid hbx
          have y0 : W1.cell? ⟨wr.heap.size, 0, none⟩ = some (.int .i64 U) := hbx.cell 0
          have y1 : W1.cell? ⟨wr.heap.size, 1, none⟩ = some (.int .i64 R) := hbx.cell 1
          have y2 : W1.cell? ⟨wr.heap.size, 2, none⟩ = some (.int .i64 V) := hbx.cell 2
          clear hbx hb1 hu hv HX
          by_cases hR2 : R = 2
          · subst hR2
            have HST2 := Lib.hid (start_next HML.out HT'.out HST.out (addC_is2 HU.out HV.out))
            go_wp2_with fail
            refine (add_any W1 (w.heap.size + 1) d U V u v false HU.out hu6 HV.out hv6 HX1.out.b1).mono ?_
            rintro e W2 ⟨rfl, hw2, hb2⟩
            have HX2 := Lib.hid (HX1.out.wrote hw2 hb2)
            have hbx2 := hw2.blk HBX.out (by omega)
            have z0 : W2.cell? ⟨wr.heap.size, 0, none⟩ = some (.int .i64 U) := hbx2.cell 0
            have z1 : W2.cell? ⟨wr.heap.size, 1, none⟩ = some (.int .i64 2) := hbx2.cell 1
            have z2 : W2.cell? ⟨wr.heap.size, 2, none⟩ = some (.int .i64 V) := hbx2.cell 2
            clear hbx2 hb2 hw2 HBX HX1
            go_wp2_with fail
            refine (add_any W2 (w.heap.size + 1) _ V U v u false HV.out hv6 HU.out hu6 HX2.out.b1).mono ?_
            rintro e W3 ⟨rfl, hw3, hb3⟩
            have HX3 := Lib.hid (HX2.out.wrote hw3 hb3)
            clear hw3 hb3
            go_wp2
            go_roundw
            case rel => exact ⟨m + 1, _, by omega, by go_num, HX3.out, HST2.out⟩
            case measure => simp [intOf]; omega
          · have HST2 := Lib.hid (start_next HML.out HT'.out HST.out (addC_not2 HU.out HV.out hR2))
            have b2 : (R == 2) = false := by simpa using hR2
            by_cases hR1 : R = 1
            · subst hR1
              go_wp2_with fail
              refine (add_any W1 (w.heap.size + 1) d U V u v true HU.out hu6 HV.out hv6 HX1.out.b1).mono ?_
              rintro e W2 ⟨rfl, hw2, hb2⟩
              have HX2 := Lib.hid (HX1.out.wrote hw2 hb2)
              have hbx2 := hw2.blk HBX.out (by omega)
              have z1 : W2.cell? ⟨wr.heap.size, 1, none⟩ = some (.int .i64 1) := hbx2.cell 1
              clear hbx2 hb2 hw2 HBX HX1
              go_wp2
              go_roundw
              case rel => exact ⟨m + 1, _, by omega, by go_num, HX2.out, HST2.out⟩
              case measure => simp [intOf]; omega
            · rw [if_neg hR1] at HST2
              have b1 : (R == 1) = false := by simpa using hR1
              go_wp2_with fail
              refine (add_any W1 (w.heap.size + 1) d U V u v false HU.out hu6 HV.out hv6 HX1.out.b1).mono ?_
              rintro e W2 ⟨rfl, hw2, hb2⟩
              have HX2 := Lib.hid (HX1.out.wrote hw2 hb2)
              have hbx2 := hw2.blk HBX.out (by omega)
              have z1 : W2.cell? ⟨wr.heap.size, 1, none⟩ = some (.int .i64 R) := hbx2.cell 1
              clear hbx2 hb2 hw2 HBX HX1
              go_wp2
              go_roundw
              case rel => exact ⟨m + 1, _, by omega, by go_num, HX2.out, HST2.out⟩
              case measure => simp [intOf]; omega
        · obtain rfl : m = n := by omega
          have hnn : ¬ (m : Int) < (m : Int) := by omega
          have HS0 : Hid (d = Cs.start l) := by
            have := HST.out
            rw [List.drop_of_length_le (by rw [HL.out.1]; exact Nat.le_refl _)] at this
            exact this.symm
          rw [HS0.out] at HX
          have b1 := HX.out.b1
          have b0 := HX.out.b0
          have HB6 : Hid (Below w.heap.size w (wr.setRow w.heap.size (tabA (Cs.start l)))) := (Wrote.row _ _ _).below HX.out.bel HX.out.bel.size (by omega)
          have HB7 : Hid (Blk (wr.setRow w.heap.size (tabA (Cs.start l))) w.heap.size 132 (tabA (Cs.start l))) := BlkT.lay b0 _
          clear HST HS0
          go_wp2_with (first
            | (refine wpList_load_row rfl 132 _ rfl (w.heap.size + 1) rfl 132 (tabA (Cs.start l)) (0, 0) _ b1 Try.underlying132 rfl (size_tab _) ?_)
            | (refine wpList_store_row rfl 132 _ _ rfl w.heap.size (tabA (Cs.start l)) rfl rfl 132 (tabA zeroT) b0 (size_tab _) rfl (tabA_one _) ?_))
          refine bodyPost_ret (v := tabV (Cs.start l)) (results_cell_row rfl _ _ w.heap.size 132 (tabA (Cs.start l)) (0, 0) _ rfl HB7.out Try.underlying132 rfl (size_tab _)) rfl ⟨rfl, HB6.out⟩
end Go.Proofs.Ytfmhmnpmdjpmeaa

namespace Go.Proofs.Ytfmhmnpmdjpmeaa
open Go.RowKit
open Cs (Cn Tb)

/-- whether two tables are equal, as the program compares them -/
def sameB (a b : Tb) : Bool := (List.range 6).all fun i => (List.range 6).all fun j => a i j == b i j
theorem sameB_iff (a b : Tb) : sameB a b = true ↔ Cs.Same a b := by
  unfold sameB Cs.Same
  simp only [List.all_eq_true, List.mem_range, beq_iff_eq]
  exact ⟨fun h i j hi hj => h i hi j hj, fun h i hi j hj => h i j hi hj⟩
theorem eqItems_ints (d : Nat) (xs ys : Array Value) (f g : Nat → Int) (w : World) : ∀ is : List Nat, (∀ i ∈ is, xs[i]? = some (.int .i64 (f i)) ∧ ys[i]? = some (.int .i64 (g i))) →
    (Op.eqItems (d + 1) 3 1 xs ys is).run Try.prog w = .ok (is.all fun i => f i == g i) w
  | [], _ => by simp [Op.eqItems]
  | i :: is, h => by
    have hp : Try.prog.plainKey 3 = true := by kernel_rfl
    obtain ⟨h1, h2⟩ := h i (by simp)
    have p1 := run_part_plain (P := Try.prog) w hp (off := i * 1) (xs := xs) (by rw [Nat.mul_one]; exact h1)
    have p2 := run_part_plain (P := Try.prog) w hp (off := i * 1) (xs := ys) (by rw [Nat.mul_one]; exact h2)
    have p3 := run_equalIn_int (P := Try.prog) w d 3 .i64 .i64 (f i) (g i) Try.underlying3
    have ih := eqItems_ints d xs ys f g w is (fun k hk => h k (by simp [hk]))
    simp only [Op.eqItems, Sem.run_bind, p1, p2, p3, Result.andThen_ok, List.all_cons]
    cases hb : (f i == g i)
    · simp
    · simp only [Bool.not_true, Bool.false_eq_true, if_false, Bool.true_and]
      exact ih
theorem info_row : ∃ i, Try.prog.info? 130 = some i := by
  have h := size_row zeroT 0
  cases hq : Try.prog.info? 130 with
  | none => simp [hq] at h
  | some i => exact ⟨i, rfl⟩
theorem info_num : ∃ i, Try.prog.info? 3 = some i := by
  have h := info_int
  cases hq : Try.prog.info? 3 with
  | none => simp [hq] at h
  | some i => exact ⟨i, rfl⟩
theorem part_row (a : Tb) {i : Nat} (hi : i < 6) (w : World) : (part 130 (tabA a) (i * 6)).run Try.prog w = .ok (.agg (rowA a i)) w := by
  obtain rfl | rfl | rfl | rfl | rfl | rfl : i = 0 ∨ i = 1 ∨ i = 2 ∨ i = 3 ∨ i = 4 ∨ i = 5 := by omega
  all_goals kernel_rfl
theorem eqItems_rows (d : Nat) (a b : Tb) (w : World) : ∀ is : List Nat, (∀ i ∈ is, i < 6) →
    (Op.eqItems (d + 2) 130 6 (tabA a) (tabA b) is).run Try.prog w = .ok (is.all fun i => (List.range 6).all fun j => a i j == b i j) w
  | [], _ => by simp [Op.eqItems]
  | i :: is, h => by
    have hi := h i (by simp)
    have p1 := part_row a hi w
    have p2 := part_row b hi w
    obtain ⟨inf, hinf⟩ := info_num
    have p3 : (Op.equalIn (d + 2) 130 (.agg (rowA a i)) (.agg (rowA b i))).run Try.prog w = .ok ((List.range 6).all fun j => a i j == b i j) w := by
      rw [show d + 2 = (d + 1) + 1 by omega, run_equalIn_array (P := Try.prog) w (d + 1) (rowA a i) (rowA b i) Try.underlying130 hinf]
      rw [show Try.prog.cellsOf 3 = 1 by kernel_rfl]
      exact eqItems_ints d (rowA a i) (rowA b i) (a i) (b i) w (List.range 6) (fun k hk => ⟨rowA_get a i (List.mem_range.1 hk), rowA_get b i (List.mem_range.1 hk)⟩)
    have ih := eqItems_rows d a b w is (fun k hk => h k (by simp [hk]))
    simp only [Op.eqItems, Sem.run_bind, p1, p2, p3, Result.andThen_ok, List.all_cons]
    cases hb : ((List.range 6).all fun j => a i j == b i j)
    · simp
    · simp only [Bool.not_true, Bool.false_eq_true, if_false, Bool.true_and]
      exact ih
theorem equal_tab (a b : Tb) (w : World) : (Op.equalIn 10000 132 (.agg (tabA a)) (.agg (tabA b))).run Try.prog w = .ok (sameB a b) w := by
  obtain ⟨inf, hinf⟩ := info_row
  rw [show (10000 : Nat) = 9999 + 1 by omega, run_equalIn_array (P := Try.prog) w 9999 (tabA a) (tabA b) Try.underlying132 hinf]
  rw [show Try.prog.cellsOf 130 = 6 by kernel_rfl]
  exact eqItems_rows 9997 a b w (List.range 6) (fun k hk => List.mem_range.1 hk)

set_option maxRecDepth 100000 in
set_option maxHeartbeats 400000 in
/-- the counter, one higher -/
theorem count_any (g : Nat) (x : Int) (w : World) (hc : w.cell? ⟨g, 0, none⟩ = some (.int .i64 x)) (hz : w.frozen? ⟨g, 0, none⟩ = false) (h0 : 0 ≤ x) (h1 : x ≤ 100) :
    Calls Try.prog 109 #[.pointer (some ⟨g, 0, none⟩), .int .i64 1] w fun e w' => e = .returned (.int .i64 (x + 1)) ∧ w' = w.setCell ⟨g, 0, none⟩ (.int .i64 (x + 1)) := by
  have hw : IntKind.i64.wrap (x + 1) = x + 1 := IntWalk.i64_in _ ⟨by omega, by omega⟩
  have hadd := run_call_add (P := Try.prog) Try.func114 (by kernel_rfl) (by kernel_rfl) (by kernel_rfl) .i64 (by kernel_rfl) (y := 1) (s := x + 1) hc hz (by simp [go_sem, hw])
  go_enter Try.func109, Try.ntmps109
  go_wp2
  go_ret
  exact ⟨rfl, rfl⟩

theorem results_cell_tmp2 {P : Program} {fn : Func} {p q : Tmp} {ty : TypeId} (h : fn.results = #[.cell p ty, .tmp q]) (tmps : Array Value) (w : World) (g : Nat) (t : TypeId) (cs : Array Value) (fr : Nat × Nat) (d : TypeDesc)
    (hp : tmps.getD p undef = .pointer (some ⟨g, 0, none⟩)) (hg : w.heap[g]? = some (.cells cs t fr))
    (hu : P.underlying ty = some d) (hd : (match d with | .struct _ | .array _ _ => true | _ => false) = true) (hi : (P.info? ty).map (·.size) = some cs.size) :
    (results fn tmps).run P w = .ok (.tuple #[.agg cs, tmps.getD q undef]) w := by
  have hp' : tmps[p]?.getD undef = .pointer (some ⟨g, 0, none⟩) := by simpa using hp
  simp [results, h, hp', asAddr, run_loadVar_row w g t ty cs fr d hg hu hd hi]
end Go.Proofs.Ytfmhmnpmdjpmeaa
