/- The table of longest ways, as the reference model makes it: l05Paths. -/
import Derived.Test.YtfmhmnpmdjpmeaaCoTab
import Derived.Test.YtfmhmnpmdjpmeaaCoOk

namespace Go.Proofs.Ytfmhmnpmdjpmeaa
open Go.RowKit
open Cs (Cn Tb)

theorem info_ints : (Try.prog.info? 23).map (fun i => (i.zero, i.size, i.bytes)) = some (some (.slice none 0 0), 1, 24) := by kernel_rfl
theorem rowL_take (d : Tb) (i : Nat) {j : Nat} (hj : j < 6) : (rowL d i).take (j + 1) = (rowL d i).take j ++ [d i j] := by
  have hl := rowL_len d i
  rw [List.take_succ_eq_append_getElem (by omega)]
  simp [rowL]
theorem rowVs_succ (rw cp : Nat → Nat) (n g c : Nat) : rowVs (fun x => if x = n then g else rw x) (fun x => if x = n then c else cp x) (n + 1) = rowVs rw cp n ++ [.slice (some ⟨g, 0, none⟩) 6 c] := by
  unfold rowVs
  rw [List.range_succ, List.map_append]
  congr 1
  · apply List.map_congr_left
    intro k hk
    have : k ≠ n := by have := List.mem_range.1 hk; omega
    simp [this]
  · simp
/-- one row more -/
theorem TabN.more {w : World} {base g cap n : Nat} {rw cp : Nat → Nat} {d : Tb} {g' c' : Nat} (hrow : ∀ i, i < n → OwnI w base (some ⟨rw i, 0, none⟩) 6 (cp i) (rowL d i)) (hinj : ∀ i j, i < n → j < n → rw i = rw j → i = j)
    (hlt : ∀ i, i < n → rw i < g') (hnew : OwnI w base (some ⟨g', 0, none⟩) 6 c' (rowL d n)) (hout : w.ownsRow base 23 1 (.slice (some ⟨g, 0, none⟩) (n + 1) cap) (n + 1) (rowVs rw cp n ++ [.slice (some ⟨g', 0, none⟩) 6 c'])) :
    TabN w base g cap (n + 1) (fun x => if x = n then g' else rw x) (fun x => if x = n then c' else cp x) d := by
  refine ⟨by rw [rowVs_succ]; exact hout, fun i hi => ?_, fun i j hi hj e => ?_⟩
  · by_cases e : i = n
    · subst e; simp only [if_true]; exact hnew
    · simp only [if_neg e]; exact hrow i (by omega)
  · by_cases e1 : i = n
    · by_cases e2 : j = n
      · omega
      · simp only [if_pos e1, if_neg e2] at e
        have := hlt j (by omega)
        omega
    · by_cases e2 : j = n
      · simp only [if_neg e1, if_pos e2] at e
        have := hlt i (by omega)
        omega
      · simp only [if_neg e1, if_neg e2] at e
        exact hinj i j (by omega) (by omega) e
theorem TabN.drew {w : World} {base g cap n : Nat} {rw cp : Nat → Nat} {d : Tb} (h : TabN w base g cap n rw cp d) : TabN w.drew base g cap n rw cp d := h.below (Below.refl _ _).drew
theorem gtI (a b : Int) : (if a < b then b else a) = max a b := by split <;> omega
theorem ltI (a b : Int) : (if b < a then b else a) = min a b := by split <;> omega
theorem node_of {U : Int} {u : Nat} (h : U + 1 = u) : Cs.node U = u := by unfold Cs.node; omega
theorem addC_one {d : Tb} {U V R : Int} {u v : Nat} (hu : U + 1 = u) (hv : V + 1 = v) (h : R ≠ 2) : Cs.addC d (U, R, V) = Cs.put d u v (max (d u v) (if R = 1 then 1 else 0)) := by
  unfold Cs.addC Cs.add1
  simp only [if_neg h, node_of hu, node_of hv]
theorem addC_two {d : Tb} {U V : Int} {u v : Nat} (hu : U + 1 = u) (hv : V + 1 = v) : Cs.addC d (U, 2, V) = Cs.put (Cs.put d u v (max (d u v) 0)) v u (max (Cs.put d u v (max (d u v) 0) v u) 0) := by
  unfold Cs.addC Cs.add1
  simp [node_of hu, node_of hv]
theorem start_step {l : List Cn} {m : Nat} {t : Cn} {d0 d d2 : Tb} (hm : m < l.length) (ht : l.getD m (0, 0, 0) = t) (h : d0 = (l.drop m).foldl Cs.addC d) (h2 : Cs.addC d t = d2) : d0 = (l.drop (m + 1)).foldl Cs.addC d2 := by
  rw [h, List.drop_eq_getElem_cons hm, List.foldl_cons, ← h2, ← ht, List.getD_eq_getElem?_getD, List.getElem?_eq_getElem hm]
  rfl
/-- the table's bounds -/
def Bnd (M : Int) (d : Tb) : Prop := ∀ a b, -1 ≤ d a b ∧ d a b ≤ M
theorem Bnd.put {M : Int} {d : Tb} (h : Bnd M d) (i j : Nat) {x : Int} (h1 : -1 ≤ x) (h2 : x ≤ M) : Bnd M (Cs.put d i j x) := fun a b => by
  unfold Cs.put
  split
  · exact ⟨h1, h2⟩
  · exact h a b
theorem Bnd.base : Bnd 1 Cs.base := fun a b => by unfold Cs.base; split <;> omega
theorem Bnd.relax {d : Tb} (h : Bnd 1000 d) (k i j : Nat) : Bnd 1000 (Cs.relax k i j d) := by
  unfold Cs.relax
  split
  · have := h i j
    exact h.put _ _ (by omega) (by omega)
  · exact h
/-- what l05Paths gives back -/
def PathsOut (w : World) (l : List Cn) (e : Ending) (w' : World) : Prop :=
  Below w.heap.size w w' ∧ ((Cs.flat l = true ∧ ∃ g cap rw cp, e = .returned (.tuple #[.slice (some ⟨g, 0, none⟩) 6 cap, .bool true]) ∧ TabN w' w.heap.size g cap 6 rw cp (Cs.tab l)) ∨ (Cs.flat l = false ∧ e = .returned (.tuple #[.slice none 0 0, .bool false])))

set_option maxRecDepth 100000 in
set_option maxHeartbeats 8000000 in
theorem l05Paths_any (w : World) (B : Nat) (A : Option Addr) (n c : Nat) (l : List Cn) (hB : B ≤ w.heap.size) (hl : ConR w B A n l) (hok : Cs.ok l) (hn : n ≤ 1000) :
    Calls Try.prog 64 #[.slice A n c] w (PathsOut w l) := by
  obtain ⟨i0, hi, hz0, hz1, hz2⟩ := info_parts info_int
  obtain ⟨j0, ji, jz0, jz1, jz2⟩ := info_parts info_ints
  have HS0 : Hid (TabN (w.alloc (.cells #[] 23)) w.heap.size w.heap.size 0 0 (fun _ => 0) (fun _ => 0) Cs.base) :=
    ⟨World.ownsRow_made w #[] 0 (Nat.le_refl _) (by simp [maxLen]) (by simp), fun i hi => absurd hi (by omega), fun i j hi => absurd hi (by omega)⟩
  have HB0 : Hid (Below w.heap.size w (w.alloc (.cells #[] 23))) := (Below.refl _ _).alloc (Nat.le_refl _) _
  have HOK := Lib.hid hok
  have HL := Lib.hid hl
  clear hok hl
  go_enter Try.func64, Try.ntmps64
  go_wp2
  go_loopw [5, 6] (fun v i wr => ∃ (k g cap : Nat) (rw cp : Nat → Nat), k ≤ 6 ∧ i = .int .i64 k ∧ v = .slice (some ⟨g, 0, none⟩) k cap ∧ Hid (TabN wr w.heap.size g cap k rw cp Cs.base) ∧ Hid (Below w.heap.size w wr)) (fun _ i _ => 6 - (intOf i).toNat)
  case atStart => exact ⟨0, w.heap.size, 0, fun _ => 0, fun _ => 0, by omega, rfl, rfl, HS0.out, HB0.out⟩
  case round =>
    obtain ⟨k, g, cap, rw, cp, hk, rfl, rfl, HT, HBR⟩ := hrel
    have hszr := HBR.out.size
    by_cases hlt : k < 6
    · have hki : (k : Int) < 6 := by omega
      obtain ⟨wo, hwo⟩ : ∃ x, x = wr := ⟨_, rfl⟩
      subst hwo
      have HR0 : Hid (OwnI (wo.alloc (.cells #[] 3)) wo.heap.size (some ⟨wo.heap.size, 0, none⟩) 0 0 ((rowL Cs.base k).take 0)) := World.ownsRow_made wo #[] 0 (Nat.le_refl _) (by simp [maxLen]) (by simp)
      have HB1 : Hid (Below wo.heap.size wo (wo.alloc (.cells #[] 3))) := (Below.refl _ _).alloc (Nat.le_refl _) _
      go_wp2
      go_loopw [7, 8] (fun v i wr2 => ∃ (j gr cr : Nat), j ≤ 6 ∧ i = .int .i64 j ∧ v = .slice (some ⟨gr, 0, none⟩) j cr ∧ Hid (OwnI wr2 wo.heap.size (some ⟨gr, 0, none⟩) j cr ((rowL Cs.base k).take j)) ∧ Hid (Below wo.heap.size wo wr2)) (fun _ i _ => 6 - (intOf i).toNat)
      case atStart => exact ⟨0, wo.heap.size, 0, by omega, rfl, rfl, HR0.out, HB1.out⟩
      case round =>
        obtain ⟨j, gr, cr, hj, rfl, rfl, HR, HB2⟩ := hrel
        have hs2 := HB2.out.size
        by_cases hjl : j < 6
        · have hji : (j : Int) < 6 := by omega
          have HTK := Lib.hid (rowL_take Cs.base k hjl)
          obtain ⟨tl, htl⟩ : ∃ tl, (rowL Cs.base k).take j = tl := ⟨_, rfl⟩
          rw [htl] at HR HTK
          clear htl
          have fin : ∀ (X : World) (u : Int), Hid (Cs.base k j = u) → ∀ (g2 c2 : Nat), X.ownsRow wo.heap.size 3 1 (.slice (some ⟨g2, 0, none⟩) (j + 1) c2) (j + 1) (tl.map (Value.int .i64) ++ [.int .i64 u]) → Hid (OwnI X wo.heap.size (some ⟨g2, 0, none⟩) (j + 1) c2 ((rowL Cs.base k).take (j + 1))) := fun X u hu g2 c2 h => by
            show OwnI _ _ _ _ _ _
            rw [HTK.out, hu.out]
            unfold OwnI
            rw [List.map_append]
            exact h
          have hown := HR.out
          by_cases e1 : k = j
          · subst e1
            have HU : Hid (Cs.base k k = 0) := if_pos (.inl rfl)
            have d1 : ((k : Int) == (k : Int)) = true := by simp
            go_wp2_with (at_builtin; refine wpList_append_own _ rfl (.tmp 36) (.tmp 38) 23 rfl wo.heap.size 3 i0 (.int .i64 0) 1 8 Try.underlying23 hi hz0 hz1 hz2 rfl (by decide) (.slice (some ⟨gr, 0, none⟩) k cr) k (tl.map (Value.int .i64)) rfl (hown.alloc _) ⟨wr.heap.size, 0, none⟩ 1 1 [.int .i64 0] rfl rfl (cell_one_new _ _ _) (fun u hu => by simp at hu; subst hu; rfl) (by unfold maxLen; omega) (by omega) (by simp; omega) ?_; intro v' w3 hown' hgrow hnil)
            obtain ⟨g2, c2, rfl⟩ : ∃ g' c', v' = .slice (some ⟨g', 0, none⟩) (k + 1) c' := by
              rcases hown'.2 with ⟨h0, _⟩ | ⟨g', c', _, h0, _⟩
              · have := (hnil.1 h0).1
                cases this
              · exact ⟨g', c', h0⟩
            have HB3 : Hid (Below wo.heap.size wo w3) := (HB2.out.alloc hs2 _).grown hgrow (by simp; omega) (fun x h => (hown.lt x h).1)
            have HW := fin w3 0 HU g2 c2 hown'
            clear hown hown' hgrow hnil fin
            go_wp2
            go_roundw
            case rel => exact ⟨k + 1, g2, c2, by omega, by go_num, rfl, HW.out, HB3.out⟩
            case measure => simp [intOf]; omega
          · have d1 : ((k : Int) == (j : Int)) = false := by simp; omega
            by_cases e2 : k = 0
            · have HU : Hid (Cs.base k j = 0) := if_pos (.inr e2)
              have d2 : ((k : Int) == 0) = true := by simp; omega
              clear e1 e2
              go_wp2_with (at_builtin; refine wpList_append_own _ rfl (.tmp 36) (.tmp 38) 23 rfl wo.heap.size 3 i0 (.int .i64 0) 1 8 Try.underlying23 hi hz0 hz1 hz2 rfl (by decide) (.slice (some ⟨gr, 0, none⟩) j cr) j (tl.map (Value.int .i64)) rfl (hown.alloc _) ⟨wr.heap.size, 0, none⟩ 1 1 [.int .i64 0] rfl rfl (cell_one_new _ _ _) (fun u hu => by simp at hu; subst hu; rfl) (by unfold maxLen; omega) (by omega) (by simp; omega) ?_; intro v' w3 hown' hgrow hnil)
              obtain ⟨g2, c2, rfl⟩ : ∃ g' c', v' = .slice (some ⟨g', 0, none⟩) (j + 1) c' := by
                rcases hown'.2 with ⟨h0, _⟩ | ⟨g', c', _, h0, _⟩
                · have := (hnil.1 h0).1
                  cases this
                · exact ⟨g', c', h0⟩
              have HB3 : Hid (Below wo.heap.size wo w3) := (HB2.out.alloc hs2 _).grown hgrow (by simp; omega) (fun x h => (hown.lt x h).1)
              have HW := fin w3 0 HU g2 c2 hown'
              clear hown hown' hgrow hnil fin
              go_wp2
              go_roundw
              case rel => exact ⟨j + 1, g2, c2, by omega, by go_num, rfl, HW.out, HB3.out⟩
              case measure => simp [intOf]; omega
            · have HU : Hid (Cs.base k j = -1) := if_neg (fun h => h.elim e1 e2)
              have d2 : ((k : Int) == 0) = false := by simp; omega
              clear e1 e2
              go_wp2_with (at_builtin; refine wpList_append_own _ rfl (.tmp 36) (.tmp 38) 23 rfl wo.heap.size 3 i0 (.int .i64 0) 1 8 Try.underlying23 hi hz0 hz1 hz2 rfl (by decide) (.slice (some ⟨gr, 0, none⟩) j cr) j (tl.map (Value.int .i64)) rfl (hown.alloc _) ⟨wr.heap.size, 0, none⟩ 1 1 [.int .i64 (-1)] rfl rfl (cell_one_new _ _ _) (fun u hu => by simp at hu; subst hu; rfl) (by unfold maxLen; omega) (by omega) (by simp; omega) ?_; intro v' w3 hown' hgrow hnil)
              obtain ⟨g2, c2, rfl⟩ : ∃ g' c', v' = .slice (some ⟨g', 0, none⟩) (j + 1) c' := by
                rcases hown'.2 with ⟨h0, _⟩ | ⟨g', c', _, h0, _⟩
                · have := (hnil.1 h0).1
                  cases this
                · exact ⟨g', c', h0⟩
              have HB3 : Hid (Below wo.heap.size wo w3) := (HB2.out.alloc hs2 _).grown hgrow (by simp; omega) (fun x h => (hown.lt x h).1)
              have HW := fin w3 (-1) HU g2 c2 hown'
              clear hown hown' hgrow hnil fin
              go_wp2
              go_roundw
              case rel => exact ⟨j + 1, g2, c2, by omega, by go_num, rfl, HW.out, HB3.out⟩
              case measure => simp [intOf]; omega
        · obtain rfl : j = 6 := by omega
          have h66 : ¬ ((6 : Nat) : Int) < 6 := by omega
          have HRE : Hid (OwnI wr wo.heap.size (some ⟨gr, 0, none⟩) 6 cr (rowL Cs.base k)) := by
            have := HR.out
            rwa [List.take_of_length_le (by rw [rowL_len]; exact Nat.le_refl _)] at this
          have HTW := Lib.hid (HT.out.below HB2.out)
          have hgr := (HRE.out.lt gr rfl).1
          have hown := HTW.out.out
          clear HR
          go_wp2_with (at_builtin; refine wpList_append_own _ rfl (.tmp 40) (.tmp 42) 97 rfl w.heap.size 23 j0 (.slice none 0 0) 1 24 Try.underlying97 ji jz0 jz1 jz2 rfl (by decide) (.slice (some ⟨g, 0, none⟩) k cap) k (rowVs rw cp k) rfl (hown.alloc _) ⟨wr.heap.size, 0, none⟩ 1 1 [.slice (some ⟨gr, 0, none⟩) 6 cr] rfl rfl (cell_one_new _ _ _) (fun u hu => by simp at hu; subst hu; rfl) (by unfold maxLen; omega) (by omega) (by simp; omega) ?_; intro v' w3 hown' hgrow hnil)
          obtain ⟨g2, c2, rfl⟩ : ∃ g' c', v' = .slice (some ⟨g', 0, none⟩) (k + 1) c' := by
            rcases hown'.2 with ⟨h0, _⟩ | ⟨g', c', _, h0, _⟩
            · have := (hnil.1 h0).1
              cases this
            · exact ⟨g', c', h0⟩
          obtain ⟨cs, hblk⟩ := own_blk (hown.alloc (.cells #[.slice (some ⟨gr, 0, none⟩) 6 cr] 23)) g rfl
          have keep : ∀ {a m cc : Nat} {xs : List Int} {bs : Nat}, OwnI wr bs (some ⟨a, 0, none⟩) m cc xs → OwnI w3 bs (some ⟨a, 0, none⟩) m cc xs := fun h => World.ownsRow.kept (h.alloc _) hgrow (.inr (own_apart (h.alloc _) hblk (by decide)))
          have HT3 : Hid (TabN w3 w.heap.size g2 c2 (k + 1) (fun x => if x = k then gr else rw x) (fun x => if x = k then cr else cp x) Cs.base) := TabN.more (fun x hx => keep (HTW.out.row x hx)) HTW.out.inj (fun x hx => Nat.lt_of_lt_of_le (HT.out.base hx).2 hgr) (own_base (keep HRE.out) hszr) hown'
          have HB3 : Hid (Below w.heap.size w w3) := ((HBR.out.trans (HB2.out.mono hszr)).alloc (Nat.le_trans hszr hs2) _).grown hgrow (by simp; omega) (fun x h => (hown.lt x h).1)
          clear keep hblk hown hown' hgrow hnil HTW HRE
          go_wp2
          go_roundw
          case rel => exact ⟨k + 1, g2, c2, _, _, by omega, by go_num, rfl, HT3.out, HB3.out⟩
          case measure => simp [intOf]; omega
    · obtain rfl : k = 6 := by omega
      have h66 : ¬ ((6 : Nat) : Int) < 6 := by omega
      go_wp2
      go_loopw [10] (fun i wr2 => ∃ (m : Nat) (d : Tb), m ≤ n ∧ i = .int .i64 m ∧ Hid (TabN wr2 w.heap.size g cap 6 rw cp d) ∧ Hid (Cs.start l = (l.drop m).foldl Cs.addC d) ∧ Hid (Bnd 1 d) ∧ Hid (Below w.heap.size w wr2)) (fun i _ => n - (intOf i).toNat)
      case atStart => exact ⟨0, Cs.base, Nat.zero_le _, rfl, HT.out, rfl, Bnd.base, HBR.out⟩
      case round =>
        obtain ⟨m, d, hm, rfl, HTD, HST, HBD, HBM⟩ := hrel
        have hszm := HBM.out.size
        by_cases hml : m < n
        · have hmi : (m : Int) < (n : Int) := by omega
          obtain ⟨b, off, hA, hb, hc⟩ := HL.out.2 (by omega)
          obtain ⟨x1, x2, x3⟩ := hc m hml
          have HLN := Lib.hid HL.out.1
          obtain ⟨t, ht⟩ : ∃ t, l.getD m (0, 0, 0) = t := ⟨_, rfl⟩
          have hcok := (Cs.cOk_iff _).1 (HOK.out (l.getD m (0, 0, 0)) (by have hml' : m < l.length := by rw [HL.out.1]; exact hml
                                                                          rw [List.getD_eq_getElem?_getD, List.getElem?_eq_getElem hml']; exact List.getElem_mem _))
          rw [ht] at x1 x2 x3 hcok
          obtain ⟨U, R, V⟩ := t
          simp only at hcok
          subst hA
          have k1 := (HBM.out.cell (p := ⟨b, off + m * 3, none⟩) (by show b < _; omega)).trans x1
          have k2 := (HBM.out.cell (p := ⟨b, off + m * 3 + 1, none⟩) (by show b < _; omega)).trans x2
          have k3 := (HBM.out.cell (p := ⟨b, off + m * 3 + 2, none⟩) (by show b < _; omega)).trans x3
          have HT' := Lib.hid ht
          clear hc ht x1 x2 x3
          obtain ⟨u, hu⟩ : ∃ u : Nat, U + 1 = u := ⟨(U + 1).toNat, by omega⟩
          obtain ⟨v, hv⟩ : ∃ v : Nat, V + 1 = v := ⟨(V + 1).toNat, by omega⟩
          have hu6 : u < 6 := by omega
          have hv6 : v < 6 := by omega
          have hui : (u : Int) < 6 := by omega
          have hvi : (v : Int) < 6 := by omega
          obtain ⟨W1, hW1⟩ : ∃ W1, wr.alloc (.cells #[.int .i64 U, .int .i64 R, .int .i64 V] 78) = W1 := ⟨_, rfl⟩
          have hb1 : Below wr.heap.size wr W1 := by rw [← hW1]; exact (Below.refl _ _).alloc (Nat.le_refl _) _
          have hbx : Blk W1 wr.heap.size 78 #[.int .i64 U, .int .i64 R, .int .i64 V] := by rw [← hW1]; exact Blk.made _ _ _
          have HT1 := Lib.hid (HTD.out.below hb1)
          have y0 : W1.cell? ⟨wr.heap.size, 0, none⟩ = some (.int .i64 U) := hbx.cell 0
          have y1 : W1.cell? ⟨wr.heap.size, 1, none⟩ = some (.int .i64 R) := hbx.cell 1
          have y2 : W1.cell? ⟨wr.heap.size, 2, none⟩ = some (.int .i64 V) := hbx.cell 2
          have q1 := HT1.out.head hu6
          have q2 := HT1.out.spot hu6 hv6
          obtain ⟨q3, q4⟩ := q2
          have wu : IntKind.i64.wrap (u : Int) = u := IntWalk.i64_in _ ⟨by omega, by omega⟩
          have wv : IntKind.i64.wrap (v : Int) = v := IntWalk.i64_in _ ⟨by omega, by omega⟩
          have hne := Nat.ne_of_lt (HTD.out.base hu6).2
          have hne2 := Nat.ne_of_lt (HTD.out.base hv6).2
          have hu0 : 0 ≤ (u : Int) := by omega
          have hv0 : 0 ≤ (v : Int) := by omega
          have HBW := Lib.hid (HBM.out.trans (hb1.mono hszm))
          have hbu := HTD.out.base hu6
          have hbv := HTD.out.base hv6
          have hduv := HBD.out u v
          have HML : Hid (m < l.length) := by show m < l.length; rw [HL.out.1]; exact hml
          by_cases hR1 : R = 1
          · subst hR1
            have HST2 := Lib.hid (start_step HML.out HT'.out HST.out (addC_one hu hv (by decide)))
            have HT2 := Lib.hid ((HT1.out.put hu6 v (max (d u v) 1)).drew)
            have HB2 := Lib.hid ((HBW.out.setCell (p := ⟨rw u, v, none⟩) hbu.1 (.int .i64 (max (d u v) 1))).drew)
            have HBD2 := Lib.hid (HBD.out.put u v (x := max (d u v) 1) (by omega) (by omega))
            go_wp2
            refine region_tail 23 (by kernel_rfl) (by kernel_rfl) ?_
            simp only [List.take_succ_cons, List.take_zero, List.drop_succ_cons, List.drop_zero]
            repeat still_step
            refine wpStill_nil ?_
            rw [gtI]
            go_wp2
            go_roundw
            case rel => exact ⟨m + 1, _, by omega, by go_num, HT2.out, HST2.out, HBD2.out, HB2.out⟩
            case measure => simp [intOf]; omega
          · by_cases hR2 : R = 2
            · subst hR2
              have HST2 := Lib.hid (start_step HML.out HT'.out HST.out (addC_two hu hv))
              have HT2 := Lib.hid ((HT1.out.put hu6 v (max (d u v) 0)).drew)
              have HB2 := Lib.hid ((HBW.out.setCell (p := ⟨rw u, v, none⟩) hbu.1 (.int .i64 (max (d u v) 0))).drew)
              have HBD2 := Lib.hid (HBD.out.put u v (x := max (d u v) 0) (by omega) (by omega))
              have HBX : Hid (Blk (W1.setCell ⟨rw u, v, none⟩ (.int .i64 (max (d u v) 0))).drew wr.heap.size 78 #[.int .i64 U, .int .i64 2, .int .i64 V]) := Blk.other hbx (p := ⟨rw u, v, none⟩) (Ne.symm hne) _
              obtain ⟨W2, hW2⟩ : ∃ W2, (W1.setCell ⟨rw u, v, none⟩ (.int .i64 (max (d u v) 0))).drew = W2 := ⟨_, rfl⟩
              obtain ⟨d2, hd2⟩ : ∃ d2, Cs.put d u v (max (d u v) 0) = d2 := ⟨_, rfl⟩
              rw [hW2] at HT2 HB2 HBX
              rw [hd2] at HST2 HT2 HBD2
              have z0 : W2.cell? ⟨wr.heap.size, 0, none⟩ = some (.int .i64 U) := HBX.out.cell 0
              have z1 : W2.cell? ⟨wr.heap.size, 1, none⟩ = some (.int .i64 2) := HBX.out.cell 1
              have z2 : W2.cell? ⟨wr.heap.size, 2, none⟩ = some (.int .i64 V) := HBX.out.cell 2
              have t1 := HT2.out.head hv6
              have t2 := HT2.out.spot hv6 hu6
              obtain ⟨t3, t4⟩ := t2
              have hdvu := HBD2.out v u
              have HT3 := Lib.hid ((HT2.out.put hv6 u (max (d2 v u) 0)).drew)
              have HB3 := Lib.hid ((HB2.out.setCell (p := ⟨rw v, u, none⟩) hbv.1 (.int .i64 (max (d2 v u) 0))).drew)
              have HBD3 := Lib.hid (HBD2.out.put v u (x := max (d2 v u) 0) (by omega) (by omega))
              clear hd2
              go_wp2
              refine region_tail 23 (by kernel_rfl) (by kernel_rfl) ?_
              simp only [List.take_succ_cons, List.take_zero, List.drop_succ_cons, List.drop_zero]
              repeat still_step
              refine wpStill_nil ?_
              rw [gtI]
              go_wp2
              refine region_tail 22 (by kernel_rfl) (by kernel_rfl) ?_
              simp only [List.take_succ_cons, List.take_zero, List.drop_succ_cons, List.drop_zero]
              repeat still_step
              refine wpStill_nil ?_
              rw [gtI]
              go_wp2
              go_roundw
              case rel => exact ⟨m + 1, _, by omega, by go_num, HT3.out, HST2.out, HBD3.out, HB3.out⟩
              case measure => simp [intOf]; omega
            · have HST2 := Lib.hid (start_step HML.out HT'.out HST.out (addC_one hu hv hR2))
              rw [if_neg hR1] at HST2
              have HT2 := Lib.hid ((HT1.out.put hu6 v (max (d u v) 0)).drew)
              have HB2 := Lib.hid ((HBW.out.setCell (p := ⟨rw u, v, none⟩) hbu.1 (.int .i64 (max (d u v) 0))).drew)
              have HBD2 := Lib.hid (HBD.out.put u v (x := max (d u v) 0) (by omega) (by omega))
              have b1 : (R == 1) = false := by simpa using hR1
              have b2 : (R == 2) = false := by simpa using hR2
              go_wp2
              refine region_tail 23 (by kernel_rfl) (by kernel_rfl) ?_
              simp only [List.take_succ_cons, List.take_zero, List.drop_succ_cons, List.drop_zero]
              repeat still_step
              refine wpStill_nil ?_
              rw [gtI]
              go_wp2
              go_roundw
              case rel => exact ⟨m + 1, _, by omega, by go_num, HT2.out, HST2.out, HBD2.out, HB2.out⟩
              case measure => simp [intOf]; omega
        · obtain rfl : m = n := by omega
          have hnn : ¬ (m : Int) < (m : Int) := by omega
          have HS0 : Hid (d = Cs.relaxK 0 (Cs.start l)) := by
            have := HST.out
            rw [List.drop_of_length_le (by rw [HL.out.1]; exact Nat.le_refl _)] at this
            exact this.symm
          have HBK : Hid (Bnd 1000 d) := fun a b => ⟨(HBD.out a b).1, by have := (HBD.out a b).2; omega⟩
          clear HST HBD
          go_wp2
          go_loopw [13] (fun i wr2 => ∃ (k : Nat) (d : Tb), k ≤ 6 ∧ i = .int .i64 k ∧ Hid (TabN wr2 w.heap.size g cap 6 rw cp d) ∧ Hid (d = Cs.relaxK k (Cs.start l)) ∧ Hid (Bnd 1000 d) ∧ Hid (Below w.heap.size w wr2)) (fun i _ => 6 - (intOf i).toNat)
          case atStart => exact ⟨0, d, Nat.zero_le _, rfl, HTD.out, HS0.out, HBK.out, HBM.out⟩
          case round =>
            clear HS0 HBK HTD HBM hszm
            obtain ⟨k, d1, hk, rfl, HTD, HSK, HBK, HBM⟩ := hrel
            by_cases hkl : k < 6
            · have hki : (k : Int) < 6 := by omega
              have hk0 : 0 ≤ (k : Int) := by omega
              go_wp2
              go_loopw [14] (fun i wr2 => ∃ (a : Nat) (d : Tb), a ≤ 6 ∧ i = .int .i64 a ∧ Hid (TabN wr2 w.heap.size g cap 6 rw cp d) ∧ Hid (d = Cs.relaxI k a d1) ∧ Hid (Bnd 1000 d) ∧ Hid (Below w.heap.size w wr2)) (fun i _ => 6 - (intOf i).toNat)
              case atStart => exact ⟨0, d1, Nat.zero_le _, rfl, HTD.out, rfl, HBK.out, HBM.out⟩
              case round =>
                clear HTD HBK HBM
                obtain ⟨a, d2, ha, rfl, HTD, HSI, HBK, HBM⟩ := hrel
                by_cases hal : a < 6
                · have hai : (a : Int) < 6 := by omega
                  have ha0 : 0 ≤ (a : Int) := by omega
                  go_wp2
                  go_loopw [15] (fun i wr2 => ∃ (j : Nat) (d : Tb), j ≤ 6 ∧ i = .int .i64 j ∧ Hid (TabN wr2 w.heap.size g cap 6 rw cp d) ∧ Hid (d = Cs.relaxJ k a j d2) ∧ Hid (Bnd 1000 d) ∧ Hid (Below w.heap.size w wr2)) (fun i _ => 6 - (intOf i).toNat)
                  case atStart => exact ⟨0, d2, Nat.zero_le _, rfl, HTD.out, rfl, HBK.out, HBM.out⟩
                  case round =>
                    clear HTD HBK HBM
                    obtain ⟨j, d3, hj, rfl, HTD, HSJ, HBK, HBM⟩ := hrel
                    by_cases hjl : j < 6
                    · have hji : (j : Int) < 6 := by omega
                      have hj0 : 0 ≤ (j : Int) := by omega
                      have HSJ2 : Hid (Cs.relax k a j d3 = Cs.relaxJ k a (j + 1) d2) := by show _ = Cs.relax k a j (Cs.relaxJ k a j d2); rw [← HSJ.out]
                      have HBK2 := Lib.hid (HBK.out.relax k a j)
                      have hak := HBK.out a k
                      have hkj := HBK.out k j
                      have haj := HBK.out a j
                      have h1 := HTD.out.head hal
                      have h2 := HTD.out.head hkl
                      obtain ⟨c1, _⟩ := HTD.out.spot hal hkl
                      obtain ⟨c2, _⟩ := HTD.out.spot hkl hjl
                      obtain ⟨c3, f3⟩ := HTD.out.spot hal hjl
                      have HRX : Hid (Cs.relax k a j d3 = if 0 ≤ d3 a k ∧ 0 ≤ d3 k j then Cs.put d3 a j (min 1000 (max (d3 a j) (d3 a k + d3 k j))) else d3) := rfl
                      have HPUT : ∀ x, Hid (TabN (wr.setCell ⟨rw a, j, none⟩ (.int .i64 x)).drew w.heap.size g cap 6 rw cp (Cs.put d3 a j x)) := fun x => (HTD.out.put hal j x).drew
                      have HBP : ∀ x, Hid (Below w.heap.size w (wr.setCell ⟨rw a, j, none⟩ (.int .i64 x)).drew) := fun x => (HBM.out.setCell (p := ⟨rw a, j, none⟩) (HTD.out.base hal).1 (.int .i64 x)).drew
                      obtain ⟨x1, hx1⟩ : ∃ x, d3 a k = x := ⟨_, rfl⟩
                      obtain ⟨x2, hx2⟩ : ∃ x, d3 k j = x := ⟨_, rfl⟩
                      obtain ⟨x3, hx3⟩ : ∃ x, d3 a j = x := ⟨_, rfl⟩
                      rw [hx1] at hak c1 HRX
                      rw [hx2] at hkj c2 HRX
                      rw [hx3] at haj c3 HRX
                      clear hx1 hx2 hx3
                      by_cases e1 : 0 ≤ x1
                      · by_cases e2 : 0 ≤ x2
                        · have HR2 : Hid (Cs.relax k a j d3 = Cs.put d3 a j (min 1000 (max x3 (x1 + x2)))) := HRX.out.trans (if_pos ⟨e1, e2⟩)
                          rw [HR2.out] at HSJ2 HBK2
                          have wS : IntKind.i64.wrap (x1 + x2) = x1 + x2 := IntWalk.i64_in _ ⟨by omega, by omega⟩
                          clear HRX HR2
                          go_wp2
                          refine region_tail 30 (by kernel_rfl) (by kernel_rfl) ?_
                          simp only [List.take_succ_cons, List.take_zero, List.drop_succ_cons, List.drop_zero]
                          repeat still_step
                          refine wpStill_nil ?_
                          rw [gtI, ltI]
                          go_wp2
                          go_roundw
                          case rel => exact ⟨j + 1, _, by omega, by go_num, (HPUT _).out, HSJ2.out, HBK2.out, (HBP _).out⟩
                          case measure => simp [intOf]; omega
                        · have HR2 : Hid (Cs.relax k a j d3 = d3) := HRX.out.trans (if_neg (fun h => e2 h.2))
                          rw [HR2.out] at HSJ2
                          clear HRX HR2
                          go_wp2
                          go_roundw
                          case rel => exact ⟨j + 1, d3, by omega, by go_num, HTD.out, HSJ2.out, HBK.out, HBM.out⟩
                          case measure => simp [intOf]; omega
                      · have HR2 : Hid (Cs.relax k a j d3 = d3) := HRX.out.trans (if_neg (fun h => e1 h.1))
                        rw [HR2.out] at HSJ2
                        clear HRX HR2
                        go_wp2
                        go_roundw
                        case rel => exact ⟨j + 1, d3, by omega, by go_num, HTD.out, HSJ2.out, HBK.out, HBM.out⟩
                        case measure => simp [intOf]; omega
                    · obtain rfl : j = 6 := by omega
                      have HSI2 : Hid (d3 = Cs.relaxI k (a + 1) d1) := by show _ = Cs.relaxJ k a 6 (Cs.relaxI k a d1); rw [← HSI.out]; exact HSJ.out
                      go_wp2
                      go_roundw
                      case rel => exact ⟨a + 1, d3, by omega, by go_num, HTD.out, HSI2.out, HBK.out, HBM.out⟩
                      case measure => simp [intOf]; omega
                · obtain rfl : a = 6 := by omega
                  have HSK2 : Hid (d2 = Cs.relaxK (k + 1) (Cs.start l)) := by show _ = Cs.relaxI k 6 (Cs.relaxK k (Cs.start l)); rw [← HSK.out]; exact HSI.out
                  go_wp2
                  go_roundw
                  case rel => exact ⟨k + 1, d2, by omega, by go_num, HTD.out, HSK2.out, HBK.out, HBM.out⟩
                  case measure => simp [intOf]; omega
            · obtain rfl : k = 6 := by omega
              have HSK2 : Hid (d1 = Cs.tab l) := HSK.out
              go_wp2
              go_loopw [16] (fun i wr2 => ∃ (a : Nat), a ≤ 6 ∧ i = .int .i64 a ∧ Hid (TabN wr2 w.heap.size g cap 6 rw cp d1) ∧ Hid (∀ x, x < a → Cs.tab l x x ≤ 0) ∧ Hid (Below w.heap.size w wr2)) (fun i _ => 6 - (intOf i).toNat)
              case atStart => exact ⟨0, Nat.zero_le _, rfl, HTD.out, fun x hx => absurd hx (by omega), HBM.out⟩
              case round =>
                clear HTD HBM
                obtain ⟨a, ha, rfl, HTD, HD, HBM⟩ := hrel
                by_cases hal : a < 6
                · have hai : (a : Int) < 6 := by omega
                  have h1 := HTD.out.head hal
                  obtain ⟨c1, _⟩ := HTD.out.spot hal hal
                  have HE := Lib.hid (show d1 a a = Cs.tab l a a by rw [HSK2.out])
                  obtain ⟨x, hx⟩ : ∃ x, d1 a a = x := ⟨_, rfl⟩
                  rw [hx] at c1 HE
                  clear hx
                  by_cases e1 : 0 < x
                  · have HF : Hid (Cs.flat l = false) := by
                      show Cs.flat l = false
                      rw [Bool.eq_false_iff]
                      intro h
                      have := (Cs.flat_iff l).1 h a hal
                      rw [← HE.out] at this
                      omega
                    go_wp2
                    go_ret2
                    exact ⟨HBM.out, .inr ⟨HF.out, rfl⟩⟩
                  · have HD2 : Hid (∀ y, y < a + 1 → Cs.tab l y y ≤ 0) := fun y hy => by
                      by_cases e : y = a
                      · subst e; rw [← HE.out]; omega
                      · exact HD.out y (by omega)
                    go_wp2
                    go_roundw
                    case rel => exact ⟨a + 1, by omega, by go_num, HTD.out, HD2.out, HBM.out⟩
                    case measure => simp [intOf]; omega
                · obtain rfl : a = 6 := by omega
                  have HF : Hid (Cs.flat l = true) := (Cs.flat_iff l).2 HD.out
                  go_wp2
                  go_ret2
                  exact ⟨HBM.out, .inl ⟨HF.out, g, cap, rw, cp, rfl, by rw [← HSK2.out]; exact HTD.out⟩⟩
end Go.Proofs.Ytfmhmnpmdjpmeaa
