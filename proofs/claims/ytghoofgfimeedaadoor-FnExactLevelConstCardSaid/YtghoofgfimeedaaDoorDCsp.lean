/- LevelConst of the reference model. -/
import Derived.Test.YtghoofgfimeedaaDoorDCst
import Derived.Test.YtghoofgfimeedaaDoorSRes2
import Derived.BigQuiet

namespace Go.Proofs.YtghoofgfimeedaaDoor
open Go.RowKit

theorem below_drewN {B : Nat} {a w : World} (h : Below B a w) (n : Nat) : Below B a (w.drewN n) := ⟨h.os, h.tape, h.output, h.size, h.block⟩
theorem one_list {q : List (Int × Int)} {p y : Int} (h : q.length = 1) (h0 : q.getD 0 (0, 0) = (p, y)) : q = [(p, y)] := by
  match q, h, h0 with
  | [x], _, h0 => simp at h0; rw [h0]

set_option maxRecDepth 100000 in
set_option maxHeartbeats 6400000 in
theorem specLevelConst_any (w : World) (B : Nat) (A : Option Addr) (n c : Nat) (l : List (Int × Int)) (hB : B ≤ w.heap.size) (hl : TokR w B A n l) (hn : (n : Int) ≤ 140737488355328) :
    Calls Tryd.prog 53 #[.slice A n c] w fun e w' => e = .returned (.int .i64 (Dc.cstR l)) ∧ Below w.heap.size w w' := by
  cases h1 : Lv.levelOk l with
  | false =>
    have HF : Hid (Dc.cstR l = -1) := if_neg (by rw [h1]; exact fun h => by cases h.1)
    have HO := Lib.hid h1
    clear h1
    go_enter Tryd.func53, Tryd.ntmps53
    go_wp2_with fail
    refine (specOk_any w B A n c l hB hl hn).mono ?_
    rintro e w1 ⟨rfl, hb1⟩
    rw [HO.out]
    clear hl
    go_wp2
    go_ret
    exact ⟨by rw [HF.out]; rfl, hb1⟩
  | true =>
    have HO := Lib.hid h1
    clear h1
    go_enter Tryd.func53, Tryd.ntmps53
    go_wp2_with fail
    refine (specOk_any w B A n c l hB hl hn).mono ?_
    rintro e w1 ⟨rfl, hb1⟩
    rw [HO.out]
    have hl1 := hl.below (hb1.mono hB)
    have hs1 := hb1.size
    have HR1 := Lib.hid (specResidual_any w1 B A n c l 0 (by omega) hl1 hn)
    rw [residR_yes ⟨HO.out, by decide⟩] at HR1
    clear hl
    go_wp2_with fail
    refine HR1.out.mono ?_
    rintro e w2 ⟨A3, c3, rfl, ho3, hb3⟩
    obtain ⟨v0, hv0, hrs⟩ := Dc.rs_zero HO.out
    have hrs' : Nm.rnorm (Nm.wl 0 l) = [(-1, v0)] := hrs
    simp only [hrs', Option.getD_some, Option.isSome_some, List.length_cons, List.length_nil, Nat.zero_add] at ho3 ⊢
    have HRS := Lib.hid hrs
    have HB2 := Lib.hid (hb1.trans (hb3.mono hs1))
    have HL2 := Lib.hid (hl1.below (hb3.mono (by omega)))
    have HR3 := Lib.hid (at_reads ho3)
    have hs3 := hb3.size
    clear hrs hrs' HR1 ho3 hb3 hb1 hl1
    go_wp2
    go_loopw [5] (fun i wr => ∃ S : Nat, S ≤ 32 ∧ i = .int .i64 S ∧ Hid (∀ s : Nat, s < S → Dc.rs l (s : Int) = Dc.rs l 0) ∧ Hid (Below w2.heap.size w2 wr)) (fun i _ => 32 - (intOf i).toNat)
    case atStart => exact ⟨0, by omega, rfl, (fun s hs => absurd hs (by omega)), Below.refl _ _⟩
    case round =>
      rename_i wo
      obtain ⟨S, hS, rfl, HALL, HBR⟩ := hrel
      have hszr := HBR.out.size
      obtain ⟨g3, o3, hA3, hg3, hc3⟩ := HR3.out.2 (by omega)
      subst hA3
      have x1 := (hc3 0 (by omega)).1
      have x2 := (hc3 0 (by omega)).2
      simp only [Nat.zero_mul, Nat.add_zero, List.getD_cons_zero] at x1 x2
      by_cases hS2 : S < 32
      · have hSi : (S : Int) ≤ 31 := by omega
        have HR1 := Lib.hid (specResidual_any wr B A n c l S (by omega) (HL2.out.below (HBR.out.mono (by omega))) hn)
        rw [residR_yes ⟨HO.out, Dc.isSign_nat hS2⟩] at HR1
        clear hc3
        go_wp2_with fail
        refine HR1.out.mono ?_
        rintro e w3 ⟨A4, c4, rfl, ho4, hb4⟩
        simp only [Option.getD_some, Option.isSome_some] at ho4 ⊢
        have HB4 := Lib.hid (HBR.out.trans (hb4.mono hszr))
        have hs4 := hb4.size
        have k1 := (HB4.out.cell (p := ⟨g3, o3, none⟩) hg3).trans x1
        have k2 := (HB4.out.cell (p := ⟨g3, o3 + 1, none⟩) hg3).trans x2
        have h61 := Nm.rnorm_len (Nm.wl (S : Int) l)
        have hpos := (Dc.rs_rok HO.out (Dc.isSign_nat hS2)).2.1
        obtain ⟨q, hq⟩ : ∃ q, Nm.rnorm (Nm.wl (S : Int) l) = q := ⟨_, rfl⟩
        have hpos' : 1 ≤ q.length := by rw [← hq]; exact hpos
        rw [hq] at ho4 h61 ⊢
        have HQ : Hid (Dc.rs l (S : Int) = q) := hq
        obtain ⟨g4, o4, hA4, hg4, hc4⟩ := (at_reads ho4).2 (by omega)
        subst hA4
        have y1 := (hc4 0 (by omega)).1
        have y2 := (hc4 0 (by omega)).2
        simp only [Nat.zero_mul, Nat.add_zero] at y1 y2
        obtain ⟨t, ht⟩ : ∃ t, q.getD 0 (0, 0) = t := ⟨_, rfl⟩
        rw [ht] at y1 y2
        obtain ⟨p, y⟩ := t
        have HT := Lib.hid ht
        obtain ⟨Lq, hLq⟩ : ∃ Lq, q.length = Lq := ⟨_, rfl⟩
        rw [hLq] at h61 hpos' ⊢
        have HLq := Lib.hid hLq
        clear hc4 ht hLq hq hpos ho4 hb4 HR1 x1 x2
        have no : ∀ h : q ≠ [(-1, v0)], Hid (Dc.cstR l = -1) := fun h => if_neg (fun hh => h (by rw [← HQ.out, hh.2 S hS2, HRS.out]))
        have HBE := Lib.hid (HB2.out.trans (HB4.out.mono (by omega)))
        by_cases hL : Lq = 1
        · subst hL
          by_cases hp : p = -1
          · subst hp
            by_cases hy : y = v0
            · subst hy
              have HA2 : Hid (∀ s : Nat, s < S + 1 → Dc.rs l (s : Int) = Dc.rs l 0) := fun s hs => by
                by_cases e : s = S
                · subst e; rw [HQ.out, HRS.out]; exact one_list HLq.out HT.out
                · exact HALL.out s (by omega)
              clear no
              go_wp2
              go_quiet (fail)
              go_wp2
              go_roundw
              case rel => exact ⟨S + 1, by omega, by go_num, HA2.out, below_drewN HB4.out _⟩
              case measure => simp [intOf]; omega
            · have HF := no (fun h => hy (by have := HT.out; rw [h] at this; simpa using this.symm))
              have d4 : (y == v0) = false := by simpa using hy
              clear no hy
              go_wp2
              go_quiet (fail)
              go_wp2
              go_ret
              exact ⟨by rw [HF.out]; rfl, below_drewN HBE.out _⟩
          · have HF := no (fun h => hp (by have := HT.out; rw [h] at this; simp at this; exact this.1.symm))
            have d2 : (p != -1) = true := by simpa using hp
            clear no hp
            go_wp2
            go_quiet (fail)
            go_wp2
            go_ret
            exact ⟨by rw [HF.out]; rfl, below_drewN HBE.out _⟩
        · have HF := no (fun h => hL (by rw [← HLq.out, h]; rfl))
          have d1 : ((Lq : Int) != 1) = true := by simp; omega
          clear no hL
          go_wp2
          go_quiet (fail)
          go_wp2
          go_ret
          exact ⟨by rw [HF.out]; rfl, below_drewN HBE.out _⟩
      · have hS3 : ¬ (S : Int) ≤ 31 := by omega
        have HF : Hid (Dc.cstR l = v0) := (if_pos ⟨HO.out, fun s hs => HALL.out s (by omega)⟩).trans (by rw [HRS.out]; rfl)
        have k2 := (HBR.out.cell (p := ⟨g3, o3 + 1, none⟩) hg3).trans x2
        have HBE := Lib.hid (HB2.out.trans (HBR.out.mono (by omega)))
        clear hS2 hS hc3
        go_wp2
        go_ret
        exact ⟨by rw [HF.out]; rfl, HBE.out⟩
end Go.Proofs.YtghoofgfimeedaaDoor
