/- Witness of the reference model. -/
/- A region that draws its order, by an invariant: each operation by itself, in whatever order they come up. -/
/- A region that draws its order, by an invariant that speaks of the slots, too. -/
import Derived.Test.YtgebjnoicgmdoaaGreatDoorWitMath
import Derived.Test.YtgebjnoicgmdoaaGreatDoorCore1
import Derived.RegionTactic

namespace Go.Proofs.YtgebjnoicgmdoaaGreatDoor
open Go.RowKit
open Cs (Cn Tb)

/-- the env that is being raised -/
def witK (T : Tb) (u k : Nat) : List Int := (List.range 5).map fun j => if j < k ∧ 0 ≤ T u (j + 1) then max (T 0 (j + 1)) (200 + T u (j + 1)) else T 0 (j + 1)
theorem witK_zero (T : Tb) (u : Nat) : witK T u 0 = leastL T := by
  unfold witK leastL
  apply List.map_congr_left
  intro j _
  rw [if_neg (fun h => by omega)]
theorem witK_all {T : Tb} {p : Int} (hp : 0 ≤ p) : witK T (Cs.node p) 5 = Un.witL T p := by
  unfold witK Un.witL
  apply List.map_congr_left
  intro j hj
  have := List.mem_range.1 hj
  by_cases h : 0 ≤ T (Cs.node p) (j + 1)
  · rw [if_pos ⟨this, h⟩, if_pos ⟨hp, h⟩]
  · rw [if_neg (fun q => h q.2), if_neg (fun q => h q.2)]
theorem witK_at (T : Tb) (u k : Nat) {j : Nat} (hj : j < 5) (hk : k ≤ j) : (witK T u k)[j]? = some (T 0 (j + 1)) := by
  simp only [witK, List.getElem?_map, List.getElem?_range hj, Option.map_some]
  rw [if_neg (fun h => by omega)]
theorem witK_step {T : Tb} {u k : Nat} (_ : k < 5) (h : 0 ≤ T u (k + 1)) : (witK T u k).set k (max (T 0 (k + 1)) (200 + T u (k + 1))) = witK T u (k + 1) := by
  apply List.ext_getElem (by simp [witK])
  intro i h1 h2
  rw [List.getElem_set]
  simp only [witK, List.getElem_map, List.getElem_range]
  by_cases e : k = i
  · subst e
    rw [if_pos rfl, if_pos ⟨by omega, h⟩]
  · rw [if_neg e]
    by_cases c : i < k
    · by_cases d : 0 ≤ T u (i + 1)
      · rw [if_pos ⟨c, d⟩, if_pos ⟨by omega, d⟩]
      · rw [if_neg (fun q => d q.2), if_neg (fun q => d q.2)]
    · rw [if_neg (fun q => c q.1), if_neg (fun q => by omega)]
theorem witK_skip {T : Tb} {u k : Nat} (h : ¬ 0 ≤ T u (k + 1)) : witK T u (k + 1) = witK T u k := by
  unfold witK
  apply List.map_congr_left
  intro j _
  by_cases e : j = k
  · subst e
    rw [if_neg (fun q => h q.2), if_neg (fun q => h q.2)]
  · by_cases c : j < k
    · by_cases d : 0 ≤ T u (j + 1)
      · rw [if_pos ⟨by omega, d⟩, if_pos ⟨c, d⟩]
      · rw [if_neg (fun q => d q.2), if_neg (fun q => d q.2)]
    · rw [if_neg (fun q => by omega), if_neg (fun q => c q.1)]
theorem exR_flat {l : List Cn} {a b : List (Int × Int)} {S : Nat} {x : Nm.At} (h : Un.exR l a b = some (S, x)) : Cs.flat (Un.sgL l (S : Int)) = true := by
  cases e : Cs.flat (Un.sgL l (S : Int)) with
  | true => rfl
  | false =>
    have h1 := (Un.exR_at h).2.1
    rw [Un.ex1_no e] at h1
    cases h1
theorem exR_par {l : List Cn} {a b : List (Int × Int)} {S : Nat} {x : Nm.At} (ha : Lv.levelOk a = true) (h : Un.exR l a b = some (S, x)) : -1 ≤ x.1 ∧ x.1 < 5 := by
  obtain ⟨hS, h1, _⟩ := Un.exR_at h
  rw [Un.ex1_yes (exR_flat h)] at h1
  have := Un.rok_mem (Dc.rs_rok ha (Dc.isSign_nat hS)) (Un.exL_mem h1)
  exact ⟨this.1, this.2.1⟩

set_option maxRecDepth 100000 in
set_option maxHeartbeats 4000000 in
theorem specWitness_any (w : World) (B b off n c : Nat) (l : List Cn) (A1 : Option Addr) (n1 c1 : Nat) (a : List (Int × Int)) (A2 : Option Addr) (n2 c2 : Nat) (m : List (Int × Int)) (hB : B ≤ w.heap.size) (hl : ConR w B (some ⟨b, off, none⟩) n l) (hn : (n : Int) ≤ 140737488355328)
    (ha : TokR w B A1 n1 a) (hn1 : (n1 : Int) ≤ 140737488355328) (hm : TokR w B A2 n2 m) (hn2 : (n2 : Int) ≤ 140737488355328) :
    Calls Tryz.prog 13 #[.slice (some ⟨b, off, none⟩) n c, .slice A1 n1 c1, .slice A2 n2 c2] w (ResJ w (witR l a m)) := by
  obtain ⟨i0, hi, hz0, hz1, hz2⟩ := info_parts info_int
  have HL := Lib.hid hl
  have HA := Lib.hid ha
  have HM := Lib.hid hm
  clear hl ha hm
  go_enter Tryz.func13, Tryz.ntmps13
  go_wp2_with fail
  refine (l06Right_any w B b off n c l A1 n1 c1 a A2 n2 c2 m hB HL.out hn HA.out hn1 HM.out hn2).mono ?_
  rintro e w1 ⟨rfl, hb1⟩
  have HB1 := Lib.hid hb1
  have hs1 := hb1.size
  clear hb1
  cases h1 : rightR l a m with
  | false =>
    have HF : Hid (witR l a m = none) := witR_no (fun h => by unfold rightR at h1; rw [h.1, h.2.1, h.2.2] at h1; cases h1)
    clear h1
    go_wp2
    go_ret2
    rw [HF.out]
    exact resJ_none HB1.out
  | true =>
    have HP := Lib.hid (rightR_yes h1)
    clear h1
    go_wp2_with fail
    refine (l06First_any w1 B b off n c l A1 n1 c1 a A2 n2 c2 m (by omega) (HL.out.below (HB1.out.mono hB)) hn (HA.out.below (HB1.out.mono hB)) hn1 (HM.out.below (HB1.out.mono hB)) hn2 HP.out.1 HP.out.2.1 HP.out.2.2).mono ?_
    rintro e w2 ⟨rfl, hb2⟩
    have HB2 := Lib.hid (HB1.out.trans (hb2.mono hs1))
    have hs2 := HB2.out.size
    clear hb2
    cases hr : Un.exR l a m with
    | none =>
      have HF : Hid (witR l a m = none) := witR_none hr
      rw [fstV_none]
      clear hr
      go_wp2
      go_ret2
      rw [HF.out]
      exact resJ_none (HB2.out.alloc HB2.out.size _)
    | some r =>
      obtain ⟨S, p, x⟩ := r
      have HF := Lib.hid (witR_some HP.out.1 HP.out.2.1 HP.out.2.2 hr)
      have HFL := Lib.hid (exR_flat hr)
      obtain ⟨hp1, hp2⟩ := exR_par HP.out.2.1 hr
      have hp1 : -1 ≤ p := hp1
      have hp2 : p < 5 := hp2
      have hn24 : n ≤ 24 := by have h := (consOkR_ok HP.out.1).2; rw [HL.out.1] at h; exact h
      rw [fstV_some]
      have hd : decide ((S : Int) < 0) = false := by simp
      clear hr
      obtain ⟨W3, hW3⟩ : ∃ W, w2.alloc (.cells #[.int .i64 p, .int .i64 x] 92) = W := ⟨_, rfl⟩
      have hb3 : Below w2.heap.size w2 W3 := by rw [← hW3]; exact (Below.refl _ _).alloc (Nat.le_refl _) _
      have hs3 : W3.heap.size = w2.heap.size + 1 := by rw [← hW3]; simp
      have HK3 : Hid (Blk W3 w2.heap.size 92 #[.int .i64 p, .int .i64 x]) := by show Blk _ _ _ _; rw [← hW3]; exact Blk.made _ _ _
      have HB3 := Lib.hid (HB2.out.trans (hb3.mono hs2))
      clear hb3
      go_wp2_with fail
      clear hW3
      refine (l05Signed_any W3 B b off n c l S (by omega) (HL.out.below (HB3.out.mono hB)) (by omega)).mono ?_
      rintro e w4 ⟨g5, c5, rfl, ho4, hb4⟩
      have HR4 := Lib.hid (OwnC.reads ho4)
      have HB4 := Lib.hid (HB3.out.trans (hb4.mono (by omega)))
      have HK4 := Lib.hid (HK3.out.below hb4 (by omega))
      have hs4 := hb4.size
      clear ho4 hb4
      go_wp2_with fail
      refine (l05Paths_any w4 w4.heap.size (some ⟨g5, 0, none⟩) (n + 5) c5 (Un.sgL l (S : Int)) (Nat.le_refl _) HR4.out (Cs.signed_ok (consOkR_ok HP.out.1).1 _) (by omega)).mono ?_
      rintro e w5 ⟨hb5, ⟨hf, g, cap, rw', cp, rfl, ht⟩ | ⟨hf, rfl⟩⟩
      · have HT5 := Lib.hid ht
        have HB5 := Lib.hid (HB4.out.trans (hb5.mono (by omega)))
        have HK5 := Lib.hid (HK4.out.below hb5 (by omega))
        have hs5 := hb5.size
        obtain ⟨T, hT⟩ : ∃ T, Cs.tab (Un.sgL l (S : Int)) = T := ⟨_, rfl⟩
        have HTB : Hid (∀ i j, -1 ≤ T i j ∧ T i j ≤ 1000) := by
          show ∀ i j, _
          rw [← hT]
          exact fun i j => ⟨(Cs.tab_bd HFL.out i j).1, Int.le_trans (Cs.tab_bd HFL.out i j).2 (by decide)⟩
        have HWL : Hid (p < 0 → Un.witL T p = leastL T) := by show _ → _; rw [← hT]; exact fun h => Un.witL_least _ h
        rw [hT] at HT5 HF
        have q0 := HT5.out.head (i := 0) (by omega)
        have hrow := HT5.out.row 0 (by omega)
        have hcp : 6 ≤ cp 0 := by
          rcases hrow.2 with ⟨h0, _⟩ | ⟨g', cap', cur, hv, _, _, hle, _⟩
          · cases h0
          · injection hv with _ _ e3
            rw [e3]; exact hle
        have HC5 : Hid (∀ j, j < 5 → w5.cell? ⟨rw' 0, 1 + j, none⟩ = some (.int .i64 (T 0 (j + 1)))) := fun j hj => by
          have := (HT5.out.spot (i := 0) (j := j + 1) (by omega) (by omega)).1
          rw [show 1 + j = j + 1 by omega]
          exact this
        have hlt0 := (HT5.out.base (i := 0) (by omega)).2
        obtain ⟨r0, hr0⟩ : ∃ r0, rw' 0 = r0 := ⟨_, rfl⟩
        obtain ⟨p0, hp0⟩ : ∃ p0, cp 0 = p0 := ⟨_, rfl⟩
        rw [hr0] at q0 HC5 hlt0
        rw [hp0] at q0 hcp
        clear hb5 ht hrow hr0 hp0 hf hT
        obtain ⟨W6, hW6⟩ : ∃ W, w5.alloc (.cells #[] 3) = W := ⟨_, rfl⟩
        have ho6 : OwnI W6 w5.heap.size (some ⟨w5.heap.size, 0, none⟩) 0 0 [] := by rw [← hW6]; exact World.ownsRow_made w5 #[] 0 (Nat.le_refl _) (by simp [maxLen]) (by simp)
        have hb6 : Below w5.heap.size w5 W6 := by rw [← hW6]; exact (Below.refl _ _).alloc (Nat.le_refl _) _
        have q1 : W6.cell? ⟨g, 0, none⟩ = some (.slice (some ⟨r0, 0, none⟩) 6 p0) := (hb6.cell (World.block_lt_of_cell? w5 _ q0)).trans q0
        have HC6 : Hid (∀ j u, ((leastL T).map (Value.int .i64))[j]? = some u → W6.cell? ((⟨r0, 1, none⟩ : Addr).add j) = some u) := fun j u hu => by
          obtain ⟨hj, rfl⟩ := leastL_cell T hu
          have hadd : (⟨r0, 1, none⟩ : Addr).add j = ⟨r0, 1 + j, none⟩ := by
            unfold Addr.add
            by_cases h : j = 0
            · subst h; rfl
            · rw [if_neg h]
          rw [hadd, hb6.cell (by exact hlt0), HC5.out j hj]
        have hs6 : W6.heap.size = w5.heap.size + 1 := by rw [← hW6]; simp
        have HB6 : Hid (Below w5.heap.size w5 W6) := hb6
        clear hb6 q0
        have hones : ∀ u ∈ (leastL T).map (Value.int .i64), u.oneCell' = true := fun u hu => by
          simp only [List.mem_map] at hu
          obtain ⟨x, _, rfl⟩ := hu
          rfl
        go_wp2_with (at_builtin; refine wpList_append_own _ rfl (.tmp 36) (.tmp 40) 29 rfl w5.heap.size 3 i0 (.int .i64 0) 1 8 Tryz.underlying29 hi hz0 hz1 hz2 rfl (by decide) (.slice (some ⟨w5.heap.size, 0, none⟩) 0 0) 0 [] rfl ho6 ⟨r0, 1, none⟩ 5 (p0 - 1) ((leastL T).map (Value.int .i64)) rfl rfl HC6.out hones (by unfold maxLen; omega) (by omega) (by omega) ?_; intro v' w7 hown' hgrow hnil)
        obtain ⟨g2, c2, rfl⟩ : ∃ g' c', v' = .slice (some ⟨g', 0, none⟩) (0 + 5) c' := by
          rcases hown'.2 with ⟨h0, _⟩ | ⟨g', c', _, h0, _⟩
          · have := (hnil.1 h0).1
            cases this
          · exact ⟨g', c', h0⟩
        have HB7 : Hid (Below w5.heap.size w5 w7) := HB6.out.grown hgrow (by omega) (fun x h => by have := (ho6.lt x h).1; omega)
        have HO7 : Hid (OwnI w7 w5.heap.size (some ⟨g2, 0, none⟩) 5 c2 (leastL T)) := by
          have := hown'
          simp only [Nat.zero_add, List.nil_append] at this
          exact this
        have hg2 : w5.heap.size ≤ g2 := (HO7.out.lt g2 rfl).1
        have hs7 := HB7.out.size
        clear hown' hgrow hnil ho6 hones HC6 q1 hW6
        by_cases hp : p < 0
        · have hwl := HWL.out hp
          have z0 : w7.cell? ⟨w2.heap.size, 0, none⟩ = some (.int .i64 p) := (HK5.out.below HB7.out (by omega)).cell 0
          have dp : decide (0 ≤ p) = false := decide_eq_false (by omega)
          have HO8 := HO7.out
          rw [← hwl] at HO8
          have HW8 := Lib.hid (own_base (base' := w.heap.size) HO8 HB5.out.size)
          have HB8 := Lib.hid (HB5.out.trans (HB7.out.mono HB5.out.size))
          clear hwl HO8 hp
          go_wp2
          refine wp_loop_rounds 1 ?_
          rw [rounds_succ]
          go_wp2
          go_ret2
          rw [HF.out]
          exact resJ_some (Un.witL_len T p) HW8.out HB8.out
        · obtain ⟨u, hu⟩ : ∃ u : Nat, p + 1 = u := ⟨(p + 1).toNat, by omega⟩
          have hu6 : u < 6 := by omega
          have hui : (u : Int) < 6 := by omega
          have hnu : Cs.node p = u := by unfold Cs.node; omega
          have HWK : Hid (witK T u 5 = Un.witL T p) := by show _ = _; rw [← hnu]; exact witK_all (by omega)
          have wu : IntKind.i64.wrap (p + 1) = u := by rw [hu]; exact IntWalk.i64_in _ ⟨by omega, by omega⟩
          have HO7' : Hid (OwnI w7 w5.heap.size (some ⟨g2, 0, none⟩) 5 c2 (witK T u 0)) := by show OwnI _ _ _ _ _ _; rw [witK_zero]; exact HO7.out
          have dp : decide (0 ≤ p) = true := decide_eq_true (by omega)
          go_wp2
          clear HO7 HWL
          go_loopw [13] (fun i wr => ∃ k : Nat, k ≤ 5 ∧ i = .int .i64 k ∧ Hid (OwnI wr w5.heap.size (some ⟨g2, 0, none⟩) 5 c2 (witK T u k)) ∧ Hid (Below w5.heap.size w5 wr)) (fun i _ => 5 - (intOf i).toNat)
          case atStart => exact ⟨0, by omega, rfl, HO7'.out, HB7.out⟩
          case round =>
            clear HO7' HB7
            obtain ⟨k, hk, rfl, HO, HB⟩ := hrel
            have z0 : wr.cell? ⟨w2.heap.size, 0, none⟩ = some (.int .i64 p) := (HK5.out.below HB.out (by omega)).cell 0
            by_cases hlt : k < 5
            · have hki : (k : Int) < 5 := by omega
              have q1 := (HT5.out.below HB.out).head hu6
              obtain ⟨v, hkv⟩ : ∃ v, k + 1 = v := ⟨_, rfl⟩
              have hv : (k : Int) + 1 = v := by omega
              have hv6 : v < 6 := by omega
              have hvi : (v : Int) < 6 := by omega
              obtain ⟨q2, _⟩ := (HT5.out.below HB.out).spot hu6 hv6
              have wu1 : IntKind.i64.wrap (u : Int) = u := IntWalk.i64_in _ ⟨by omega, by omega⟩
              have wv1 : IntKind.i64.wrap (v : Int) = v := IntWalk.i64_in _ ⟨by omega, by omega⟩
              have hu0 : 0 ≤ (u : Int) := by omega
              have hv0 : 0 ≤ (v : Int) := by omega
              obtain ⟨f, hf⟩ : ∃ f, T u v = f := ⟨_, rfl⟩
              have hfb := HTB.out u v
              rw [hf] at hfb q2
              have HF1 := Lib.hid hf
              clear hf
              by_cases hf0 : 0 ≤ f
              · have df : decide (0 ≤ f) = true := decide_eq_true hf0
                obtain ⟨q3, q4⟩ := own_spot HO.out (i := k) (u := .int .i64 (T 0 (k + 1))) (by rw [List.getElem?_map, witK_at T u k hlt (Nat.le_refl k)]; rfl)
                have ht0 := HTB.out 0 (k + 1)
                have HST := Lib.hid (witK_step (T := T) (u := u) hlt (by rw [hkv, HF1.out]; exact hf0))
                rw [hkv, HF1.out] at HST
                rw [hkv] at q3 ht0
                obtain ⟨t0, hT0⟩ : ∃ t0, T 0 v = t0 := ⟨_, rfl⟩
                rw [hT0] at q3 ht0 HST
                have wf : IntKind.i64.wrap (200 + f) = 200 + f := IntWalk.i64_in _ ⟨by omega, by omega⟩
                have HO3 : Hid (OwnI (wr.setCell ⟨g2, k, none⟩ (.int .i64 (max t0 (200 + f)))) w5.heap.size (some ⟨g2, 0, none⟩) 5 c2 (witK T u v)) := by
                  have := own_set HO.out k (.int .i64 (max t0 (200 + f)))
                  rw [← List.map_set, HST.out] at this
                  exact this
                have HB3 : Hid (Below w5.heap.size w5 (wr.setCell ⟨g2, k, none⟩ (.int .i64 (max t0 (200 + f))))) := HB.out.setCell (p := ⟨g2, k, none⟩) hg2 _
                clear hT0
                go_wp2
                go_roundw
                case rel =>
                  have hmx : (if t0 < 200 + f then 200 + f else t0) = max t0 (200 + f) := by split <;> omega
                  exact ⟨v, by omega, rfl, by rw [hmx]; exact HO3.out, by rw [hmx]; exact HB3.out⟩
                case measure => simp [intOf]; omega
              · obtain rfl : f = -1 := by omega
                have HO3 : Hid (OwnI wr w5.heap.size (some ⟨g2, 0, none⟩) 5 c2 (witK T u v)) := by
                  show OwnI _ _ _ _ _ _
                  rw [← hkv, witK_skip (by rw [hkv, HF1.out]; exact hf0)]
                  exact HO.out
                clear hf0 hfb
                go_wp2
                go_roundw
                case rel => exact ⟨v, by omega, rfl, HO3.out, HB.out⟩
                case measure => simp [intOf]; omega
            · obtain rfl : k = 5 := by omega
              rw [HWK.out] at HO
              have HO9 := Lib.hid (own_base (base' := w.heap.size) HO.out HB5.out.size)
              have HB9 := Lib.hid (HB5.out.trans (HB.out.mono HB5.out.size))
              go_wp2
              go_ret2
              rw [HF.out]
              exact resJ_some (Un.witL_len T p) HO9.out HB9.out
      · exact absurd (hf.symm.trans HFL.out) (by decide)
end Go.Proofs.YtgebjnoicgmdoaaGreatDoor

namespace Go.Proofs.YtgebjnoicgmdoaaGreatDoor
open Go

/-- the slots of a call as a function -/
def tm (N : Nat) (f : Nat → Value) : Act := { tmps := ((List.range N).map f).toArray, defers := [] }
def upd (f : Nat → Value) (d : Option Nat) (v : Value) : Nat → Value := fun t => if d = some t then v else f t
theorem tm_put (N : Nat) (f : Nat → Value) (d : Option Nat) (v : Value) : (tm N f).put d v = tm N (upd f d v) := by
  cases d with
  | none =>
    have : upd f none v = f := funext fun t => if_neg (by intro h; cases h)
    rw [this]; rfl
  | some d =>
    show ({ tmps := ((List.range N).map f).toArray.setIfInBounds d v, defers := [] } : Act) = { tmps := ((List.range N).map (upd f (some d) v)).toArray, defers := [] }
    congr 1
    rw [List.setIfInBounds_toArray]
    congr 1
    apply List.ext_getElem (by simp)
    intro i h1 h2
    rw [List.getElem_set]
    simp only [List.getElem_map, List.getElem_range, upd]
    by_cases e : d = i
    · subst e; rw [if_pos rfl, if_pos rfl]
    · rw [if_neg e, if_neg (fun h => e (by injection h))]
theorem tm_eval {N t : Nat} (h : t < N) (f : Nat → Value) : (tm N f).eval (.tmp t) = f t := by
  simp [tm, Act.eval, Array.getD, h]
theorem upd_same (f : Nat → Value) (t : Nat) (v : Value) : upd f (some t) v t = v := if_pos rfl
theorem upd_other (f : Nat → Value) {d : Option Nat} {t : Nat} (v : Value) (h : d ≠ some t) : upd f d v t = f t := if_neg h

section
variable {P : Program} {ops : Array Oper} {Q : Exit → Act → World → Prop} {md : Region.Mode}

theorem count_listed {listed : Array Bool} {i : Nat} (h : listed.getD i true = false) : (listed.setIfInBounds i true).toList.count false + 1 = listed.toList.count false := by
  obtain ⟨l⟩ := listed
  have hl : i < l.length := by
    rcases Nat.lt_or_ge i l.length with h' | h'
    · exact h'
    · simp [Array.getD, Nat.not_lt.2 h'] at h
  have hi : l[i] = false := by simpa [Array.getD, hl] using h
  simp only [List.setIfInBounds_toArray]
  clear h
  induction l generalizing i with
  | nil => simp at hl
  | cons x l ih =>
    cases i with
    | zero =>
      simp only [List.getElem_cons_zero] at hi
      subst hi
      simp
    | succ i =>
      simp only [List.length_cons] at hl
      simp only [List.getElem_cons_succ] at hi
      have := ih (by omega) hi
      simp only [List.set_cons_succ, List.count_cons]
      omega
theorem ready_pos {listed : Array Bool} {i : Nat} (h : i ∈ Region.ready md ops listed) : 0 < listed.toList.count false := by
  have := count_listed (mem_ready.1 h).1
  omega
/-- the slot of an operation, what lies in it, and that an operation waits for another one -/
def dstOf (ops : Array Oper) (j : Nat) : Option Nat := (ops[j]?).bind (·.dst)
def slotV (ops : Array Oper) (f : Nat → Value) (j : Nat) : Value := match dstOf ops j with | some t => f t | none => undef
def waitsFor (ops : Array Oper) (i j : Nat) : Bool := match ops[i]? with | some o => o.after.any (fun e => Region.binds .any e && e.on == j) | none => false
def slotsOk (ops : Array Oper) : Bool :=
  (List.range ops.size).all fun i => (match ops[i]? with | some o => o.after.all (fun e => !Region.binds .any e || decide (e.on < i)) | none => true) && (List.range ops.size).all fun j => i == j || dstOf ops i == none || dstOf ops i != dstOf ops j
def isDst (ops : Array Oper) (t : Nat) : Bool := (List.range ops.size).any fun i => dstOf ops i == some t

theorem slotsOk_before (h : slotsOk ops = true) {i : Nat} {o : Oper} (ho : ops[i]? = some o) : ∀ e ∈ o.after, Region.binds .any e = true → e.on < i := by
  have hi : i < ops.size := (Array.getElem?_eq_some_iff.1 ho).1
  unfold slotsOk at h
  have h1 := List.all_eq_true.1 h i (List.mem_range.2 hi)
  rw [Bool.and_eq_true, ho] at h1
  intro e he hb
  have := Array.all_eq_true_iff_forall_mem.1 h1.1 e he
  rw [hb] at this
  simpa using this
theorem slotsOk_apart (h : slotsOk ops = true) {i j : Nat} (hi : i < ops.size) (hj : j < ops.size) (hne : i ≠ j) {t : Nat} (hd : dstOf ops i = some t) : dstOf ops j ≠ some t := by
  unfold slotsOk at h
  have h1 := List.all_eq_true.1 h i (List.mem_range.2 hi)
  rw [Bool.and_eq_true] at h1
  have h2 := List.all_eq_true.1 h1.2 j (List.mem_range.2 hj)
  rw [hd] at h2
  simp [hne] at h2
  exact fun e => h2 e.symm
theorem ready_none (h : slotsOk ops = true) {listed : Array Bool} (hs : listed.size = ops.size) (hr : Region.ready .any ops listed = []) : ∀ i, i < ops.size → listed.getD i false = true := by
  intro i
  induction i using Nat.strongRecOn with
  | ind i ih =>
    intro hi
    obtain ⟨o, ho⟩ : ∃ o, ops[i]? = some o := ⟨ops[i], by simp [hi]⟩
    cases hl : listed.getD i true with
    | true => simpa [Array.getD, hs, hi] using hl
    | false =>
      have : i ∈ Region.ready .any ops listed := by
        rw [mem_ready]
        refine ⟨hl, o, ho, fun e he hb => ?_⟩
        have := slotsOk_before h ho e he hb
        exact ih e.on this (by omega)
      rw [hr] at this
      cases this

/-- A REGION BY ITS OPERATIONS: C says of each what lies in its slot once it has come up; each keeps what is said of the others (R, hkeep); G goes along, counted, with what has come up. -/
def mark (d : Nat → Bool) (i : Nat) : Nat → Bool := fun j => if j = i then true else d j
/-- a slot that no operation writes -/
theorem frame_of {d : Nat → Bool} {t : Nat} (h : isDst ops t = false) : ∀ j, dstOf ops j = some t → d j = false := fun j hj => by
  have hj' : j < ops.size := by
    rcases Nat.lt_or_ge j ops.size with q | q
    · exact q
    · simp [dstOf, Array.getElem?_eq_none q] at hj
  have : isDst ops t = true := by
    unfold isDst
    rw [List.any_eq_true]
    exact ⟨j, List.mem_range.2 hj', by simp [hj]⟩
  rw [h] at this
  cases this
/-- the operations one by one -/
def AllFrom (p : Nat → Oper → Prop) : Nat → List Oper → Prop
  | _, [] => True
  | i, o :: os => p i o ∧ AllFrom p (i + 1) os
theorem AllFrom.cons {p : Nat → Oper → Prop} {i : Nat} {o : Oper} {os : List Oper} (h : p i o) (hs : AllFrom p (i + 1) os) : AllFrom p i (o :: os) := ⟨h, hs⟩
theorem AllFrom.nil {p : Nat → Oper → Prop} {i : Nat} : AllFrom p i [] := trivial
theorem AllFrom.at {p : Nat → Oper → Prop} : ∀ {os : List Oper} {s : Nat}, AllFrom p s os → ∀ i o, os[i]? = some o → p (s + i) o
  | [], _, _, i, o, h => by simp at h
  | x :: os, s, h, i, o, ho => by
    cases i with
    | zero => simp at ho; subst ho; exact h.1
    | succ i =>
      have := AllFrom.at h.2 i o (by simpa using ho)
      rw [show s + (i + 1) = s + 1 + i by omega]
      exact this
theorem AllFrom.all {p : Nat → Oper → Prop} {os : List Oper} (h : AllFrom p 0 os) : ∀ i o, os.toArray[i]? = some o → p i o := fun i o ho => by
  have := AllFrom.at h i o (by simpa using ho)
  rwa [Nat.zero_add] at this

end
end Go.Proofs.YtgebjnoicgmdoaaGreatDoor

namespace Go.Proofs.YtgebjnoicgmdoaaGreatDoor
open Go

section
variable {P : Program} {ops : Array Oper} {Q : Exit → Act → World → Prop}
/-- the slots after a region, on the slots before it -/
theorem tm_frame (N : Nat) (f : Nat → Value) : ∀ (L : List Nat) (f0 : Nat → Value), (∀ t, t ∉ L → f t = f0 t) → tm N f = L.foldl (fun a t => a.put (some t) (f t)) (tm N f0)
  | [], f0, h => by
    have : f = f0 := funext fun t => h t (by simp)
    rw [this]
    rfl
  | x :: L, f0, h => by
    rw [List.foldl_cons, tm_put]
    refine tm_frame N f L (upd f0 (some x) (f x)) fun t ht => ?_
    by_cases e : t = x
    · subst e; exact (upd_same _ _ _).symm
    · rw [upd_other _ _ (fun q => e (Option.some.inj q).symm)]
      exact h t (by simp [e, ht])
/-- these are all slots that the region writes -/
def covers (ops : Array Oper) (L : List Nat) : Bool := (List.range ops.size).all fun j => match dstOf ops j with | some t => L.contains t | none => true
theorem covers_not {L : List Nat} {t : Nat} {d : Nat → Bool} (h : covers ops L = true) (ht : t ∉ L) : ∀ j, dstOf ops j = some t → d j = false := fun j hj => by
  have hj' : j < ops.size := by
    rcases Nat.lt_or_ge j ops.size with q | q
    · exact q
    · simp [dstOf, Array.getElem?_eq_none q] at hj
  have h1 := List.all_eq_true.1 h j (List.mem_range.2 hj')
  rw [hj] at h1
  simp at h1
  exact absurd h1 ht
end
end Go.Proofs.YtgebjnoicgmdoaaGreatDoor
