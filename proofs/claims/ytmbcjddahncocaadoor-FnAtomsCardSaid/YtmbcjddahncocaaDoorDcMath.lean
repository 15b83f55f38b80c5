/- ResidOk of the program. -/
/- ResidLe of the program (written by tools/mkrle.py). -/
/- Plain facts on ResidLe: it holds for every env of the sign, and else an env of the sign with one great parameter tells. -/
/- Slices of levels: how they are read, substitution in plain lists, levelsOk of the program. -/
/- Plain facts on levels: evaluation of a join and of successors. -/
/- Plain facts: two levels are compared for all values of the parameters. -/
import Derived.Test.YtmbcjddahncocaaDoorNNorm
import Derived.Test.YtmbcjddahncocaaDoorSgHas
import Derived.Test.YtmbcjddahncocaaDoorRsMath
import Derived.Test.YtmbcjddahncocaaDoorRsMath3
import Derived.Test.YtmbcjddahncocaaDoorJoin
import Derived.Test.YtmbcjddahncocaaDoorNFree
import Derived.Test.YtmbcjddahncocaaDoorSlc
import Derived.Test.YtmbcjddahncocaaDoorSpec

namespace Go.Proofs.YtmbcjddahncocaaDoor
open Go.RowKit

set_option maxRecDepth 100000 in
set_option maxHeartbeats 800000 in
theorem numberIsNeeded_any (w : World) (B : Nat) (b off n c : Nat) (l : List (Int × Int)) (hB : B ≤ w.heap.size) (hl : TokR w B (some ⟨b, off, none⟩) n l) (hn : (n : Int) ≤ 140737488355328) (h1 : 1 ≤ n) (hnc : n ≤ c) (hok : Nm.AllOk l) :
    Calls Tryd.prog 136 #[.slice (some ⟨b, off, none⟩) n c] w fun e w' => e = .returned (.bool (Nm.exceeds ((l.getD 0 (0, 0)).2 - 1) (l.drop 1))) ∧ Below w.heap.size w w' := by
  obtain ⟨b', off', e, hb, hc⟩ := hl.2 (by omega)
  injection e with e
  injection e with e1 e2
  subst e1; subst e2
  obtain ⟨c1, c2⟩ := hc 0 (by omega)
  have h2 := (Nm.atOk_iff _).1 (hok 0 (by have := hl.1; omega))
  obtain ⟨x, hx⟩ : ∃ x, (l.getD 0 (0, 0)).2 = x := ⟨_, rfl⟩
  rw [hx] at c2 h2 ⊢
  obtain ⟨_, _, h3, h4⟩ := h2
  rw [Nat.zero_mul, Nat.add_zero] at c2
  obtain ⟨A', hsl, hA'⟩ := run_tail b off n c h1 hnc
  have HR := Lib.hid (hA' _ _ _ hl)
  have HNE := numberExceeds_any w.drew B (x - 1) A' (n - 1) (c - 1) (l.drop 1) hB HR.out (by omega)
  have HN := Lib.hid HNE
  have hi0 : 0 < n := by omega
  clear hc c1 hl hA' hx hok HNE
  go_enter Tryd.func136, Tryd.ntmps136
  go_wp2_with fail
  refine region_tail 7 (by kernel_rfl) (by kernel_rfl) ?_
  simp only [List.take_succ_cons, List.take_zero, List.drop_succ_cons, List.drop_zero]
  repeat still_step
  refine wpStill_nil ?_
  go_wp2_with fail
  refine (HN.out).mono ?_
  rintro e w3 ⟨rfl, hb3⟩
  have HB3 := Lib.hid ((Below.refl w.heap.size w).drew.trans hb3)
  go_wp2
  go_ret
  exact ⟨by rw [List.drop_one]; rfl, HB3.out⟩

set_option maxRecDepth 100000 in
set_option maxHeartbeats 1600000 in
theorem implResidOk_any (w : World) (B : Nat) (A : Option Addr) (n c : Nat) (l : List (Int × Int)) (s : Int) (hB : B ≤ w.heap.size) (hl : TokR w B A n l) (hn : (n : Int) ≤ 140737488355328) (hnc : n ≤ c) :
    Calls Tryd.prog 95 #[.slice A n c, .int .i64 s] w fun e w' => e = .returned (.bool (Nm.residOk s l)) ∧ Below w.heap.size w w' := by
  cases hs : Sg.isSign s with
  | false =>
    have HF : Hid (Nm.residOk s l = false) := Nm.residOk_no (fun h => by rw [h.1] at hs; cases hs)
    clear hl
    go_enter Tryd.func95, Tryd.ntmps95
    go_wp2_with fail
    refine (signOk_any w s).mono ?_
    rintro e w' ⟨rfl, rfl⟩
    rw [hs]
    go_wp2
    go_ret
    exact ⟨by rw [HF.out]; rfl, Below.refl _ _⟩
  | true =>
  by_cases h0 : n = 0
  · subst h0
    have HF : Hid (Nm.residOk s l = false) := Nm.residOk_no (fun h => by have h1 := h.2.1; rw [hl.1] at h1; omega)
    clear hl
    go_enter Tryd.func95, Tryd.ntmps95
    go_wp2_with fail
    refine (signOk_any w s).mono ?_
    rintro e w' ⟨rfl, rfl⟩
    rw [hs]
    go_wp2
    go_ret
    exact ⟨by rw [HF.out]; rfl, Below.refl _ _⟩
  · have h1 : 1 ≤ n := by omega
    have d0 : ((n : Int) == 0) = false := by simp; omega
    cases hall : Nm.allOk l with
    | false =>
      have HF : Hid (Nm.residOk s l = false) := Nm.residOk_no (fun h => by rw [(Nm.allOk_iff l).2 h.2.2.1] at hall; cases hall)
      have HA := Lib.hid hall
      clear hall
      go_enter Tryd.func95, Tryd.ntmps95
      go_wp2_with fail
      refine (signOk_any w s).mono ?_
      rintro e w' ⟨rfl, rfl⟩
      rw [hs]
      go_wp2_with fail
      refine (atomsOk_any _ B A n c l hB hl hn).mono ?_
      rintro e w1 ⟨rfl, hb1⟩
      rw [HA.out]
      go_wp2
      go_ret
      exact ⟨by rw [HF.out]; rfl, hb1⟩
    | true =>
      have HA := Lib.hid hall
      have HP := Lib.hid ((Nm.allOk_iff l).1 hall)
      clear hall
      cases hinc : Nm.incr l with
      | false =>
        have HF : Hid (Nm.residOk s l = false) := Nm.residOk_no (fun h => by rw [(Nm.incr_iff l).2 h.2.2.2.1] at hinc; cases hinc)
        have HI := Lib.hid hinc
        clear hinc
        go_enter Tryd.func95, Tryd.ntmps95
        go_wp2_with fail
        refine (signOk_any w s).mono ?_
        rintro e w' ⟨rfl, rfl⟩
        rw [hs]
        go_wp2_with fail
        refine (atomsOk_any _ B A n c l hB hl hn).mono ?_
        rintro e w1 ⟨rfl, hb1⟩
        rw [HA.out]
        go_wp2_with fail
        refine (paramsIncrease_any w1 B A n c l (Nat.le_trans hB hb1.size) (hl.below (hb1.mono hB)) hn h1).mono ?_
        rintro e w2 ⟨rfl, hb2⟩
        rw [HI.out]
        have HB := Lib.hid (hb1.trans (hb2.mono hb1.size))
        go_wp2
        go_ret
        exact ⟨by rw [HF.out]; rfl, HB.out⟩
      | true =>
        have HI := Lib.hid hinc
        have HQ := Lib.hid ((Nm.incr_iff l).1 hinc)
        have HS := Lib.hid hs
        clear hinc
        obtain ⟨b, off, rfl, hb, hc⟩ := hl.2 (by omega)
        have HC := Lib.hid hc
        have HL := Lib.hid hl.1
        have HR := Lib.hid hl
        clear hc
        go_enter Tryd.func95, Tryd.ntmps95
        go_wp2_with fail
        refine (signOk_any w s).mono ?_
        rintro e w' ⟨rfl, rfl⟩
        rw [hs]
        clear hs
        go_wp2_with fail
        refine (atomsOk_any _ B _ n c l hB hl hn).mono ?_
        rintro e w1 ⟨rfl, hb1⟩
        rw [HA.out]
        go_wp2_with fail
        refine (paramsIncrease_any w1 B _ n c l (Nat.le_trans hB hb1.size) (hl.below (hb1.mono hB)) hn h1).mono ?_
        rintro e w2 ⟨rfl, hb2⟩
        rw [HI.out]
        have HBL := Lib.hid (hb1.trans (hb2.mono hb1.size))
        clear hl hb1 hb2
        go_wp2
        go_loopw [27] (fun i wr => ∃ k : Nat, k ≤ n ∧ i = .int .i64 k ∧ Hid (∀ j, j < k → (l.getD j (0, 0)).1 = -1 ∨ Sg.has s (l.getD j (0, 0)).1 = true) ∧ Below w'.heap.size w' wr) (fun i _ => n - (intOf i).toNat)
        case atStart => exact ⟨0, Nat.zero_le _, rfl, (fun j hj => absurd hj (by omega)), HBL.out⟩
        case round =>
          obtain ⟨k, hk, rfl, HX, hbel⟩ := hrel
          by_cases hlt : k < n
          · obtain ⟨c1, c2⟩ := HC.out k hlt
            obtain ⟨t, ht⟩ : ∃ t, l.getD k (0, 0) = t := ⟨_, rfl⟩
            rw [ht] at c1 c2
            obtain ⟨p, x⟩ := t
            have HT := Lib.hid ht
            have k1 := (hbel.cell (p := ⟨b, off + k * 2, none⟩) (by show b < _; omega)).trans c1
            have k2 := (hbel.cell (p := ⟨b, off + k * 2 + 1, none⟩) (by show b < _; omega)).trans c2
            have HBA := Lib.hid (hbel.alloc hbel.size (.cells #[.int .i64 p, .int .i64 x] 68))
            clear c1 c2 ht
            have HX2 : Hid (p = -1 ∨ Sg.has s p = true → ∀ j, j < k + 1 → (l.getD j (0, 0)).1 = -1 ∨ Sg.has s (l.getD j (0, 0)).1 = true) := by
              intro hp j hj
              by_cases e : j = k
              · subst e; rw [HT.out]; exact hp
              · exact HX.out j (by omega)
            by_cases ep : p = -1
            · subst ep
              go_wp2
              go_roundw
              case rel => exact ⟨k + 1, by omega, by go_num, HX2.out (.inl rfl), HBA.out⟩
              case measure => simp [intOf]; omega
            · have dp : (p != -1) = true := by simpa using ep
              have HEP := Lib.hid ep
              clear ep
              cases hh : Sg.has s p with
              | true =>
                have HX3 := Lib.hid (HX2.out (.inr hh))
                go_wp2_with fail
                refine (implSignHas_any _ s p).mono ?_
                rintro e w4 ⟨rfl, rfl⟩
                rw [hh]
                go_wp2
                go_roundw
                case rel => exact ⟨k + 1, by omega, by go_num, HX3.out, HBA.out⟩
                case measure => simp [intOf]; omega
              | false =>
                have HF : Hid (Nm.residOk s l = false) := Nm.residOk_no (fun h => by
                  have := h.2.2.2.2.1 k (by rw [HL.out]; exact hlt)
                  rw [HT.out] at this
                  rcases this with h | h
                  · exact HEP.out h
                  · rw [hh] at h; cases h)
                go_wp2_with fail
                refine (implSignHas_any _ s p).mono ?_
                rintro e w4 ⟨rfl, rfl⟩
                rw [hh]
                go_wp2
                go_ret
                exact ⟨by rw [HF.out]; rfl, HBA.out⟩
          · obtain rfl : k = n := by omega
            obtain ⟨t, ht⟩ : ∃ t, l.getD 0 (0, 0) = t := ⟨_, rfl⟩
            obtain ⟨c1, c2⟩ := HC.out 0 (by omega)
            rw [ht] at c1 c2
            obtain ⟨p, x⟩ := t
            have HT := Lib.hid ht
            rw [Nat.zero_mul, Nat.add_zero] at c1
            have k1 := (hbel.cell (p := ⟨b, off, none⟩) (by show b < _; omega)).trans c1
            clear c1 c2 ht
            have hi0 : 0 < k := by omega
            by_cases ep : p = -1
            · subst ep
              have HNN := Lib.hid (numberIsNeeded_any wr B b off k c l (Nat.le_trans hB hbel.size) (HR.out.below (hbel.mono hB)) hn h1 hnc HP.out)
              go_wp2_with fail
              refine HNN.out.mono ?_
              rintro e w3 ⟨rfl, hb3⟩
              have HB3 := Lib.hid (hbel.trans (hb3.mono hbel.size))
              have HF : Hid (Nm.residOk s l = Nm.exceeds ((l.getD 0 (0, 0)).2 - 1) (l.drop 1)) := by
                show _ = _
                rw [Bool.eq_iff_iff, Nm.residOk_iff, Nm.exceeds_iff]
                constructor
                · intro h
                  exact h.2.2.2.2.2 (by rw [HT.out])
                · intro h
                  exact ⟨HS.out, by rw [HL.out]; exact h1, HP.out, HQ.out, by rw [HL.out]; exact HX.out, fun _ => h⟩
              obtain ⟨r, hr⟩ : ∃ r, Nm.residOk s l = r := ⟨_, rfl⟩
              rw [← HF.out, hr]
              have HRR := Lib.hid hr
              clear hr
              go_wp2
              go_ret
              exact ⟨by rw [HRR.out]; rfl, HB3.out⟩
            · have HF : Hid (Nm.residOk s l = true) := (Nm.residOk_iff s l).2 ⟨HS.out, by rw [HL.out]; exact h1, HP.out, HQ.out, by rw [HL.out]; exact HX.out, fun h => absurd (by rw [HT.out] at h; exact h) ep⟩
              have dp : (p != -1) = true := by simpa using ep
              clear ep
              go_wp2
              go_ret
              exact ⟨by rw [HF.out]; rfl, hbel⟩
end Go.Proofs.YtmbcjddahncocaaDoor

namespace Go.Proofs.YtmbcjddahncocaaDoor
open Go.RowKit

namespace Nm
/-- the atom y serves for x where positive parameters are at least 1 -/
def RFits (x y : At) : Prop := x.1 = y.1 ∧ x.2 ≤ y.2 ∨ x.1 = -1 ∧ 0 ≤ y.1 ∧ x.2 ≤ y.2 + 1
/-- some atom of b serves for x -/
def ratomLe (x : At) (b : List At) : Prop := ∃ k, k < b.length ∧ RFits x (b.getD k (0, 0))
open Classical in
noncomputable def ratomLeB (x : At) (b : List At) : Bool := decide (ratomLe x b)
theorem ratomLeB_iff (x : At) (b : List At) : ratomLeB x b = true ↔ ratomLe x b := by simp [ratomLeB]
theorem ratomLeB_no {x : At} {b : List At} (h : ¬ ratomLe x b) : ratomLeB x b = false := by simp [ratomLeB, h]
open Classical in
noncomputable def residLe (s : Int) (a b : List At) : Bool := decide (ROk s a ∧ ROk s b ∧ ∀ k, k < a.length → ratomLe (a.getD k (0, 0)) b)
theorem residLe_iff (s : Int) (a b : List At) : residLe s a b = true ↔ ROk s a ∧ ROk s b ∧ ∀ k, k < a.length → ratomLe (a.getD k (0, 0)) b := by simp [residLe]
theorem residLe_no {s : Int} {a b : List At} (h : ¬ (ROk s a ∧ ROk s b ∧ ∀ k, k < a.length → ratomLe (a.getD k (0, 0)) b)) : residLe s a b = false := by
  simp only [residLe, decide_eq_false_iff_not]; exact h
theorem residLe_notA {s : Int} {a b : List At} (h : residOk s a = false) : residLe s a b = false :=
  residLe_no (fun hh => by rw [(residOk_iff s a).2 hh.1] at h; cases h)
theorem residLe_notB {s : Int} {a b : List At} (h : residOk s b = false) : residLe s a b = false :=
  residLe_no (fun hh => by rw [(residOk_iff s b).2 hh.2.1] at h; cases h)
end Nm

set_option maxHeartbeats 1600000 in
theorem residAtomLe_any (w : World) (B : Nat) (p x : Int) (A : Option Addr) (n c : Nat) (l : List (Int × Int)) (hB : B ≤ w.heap.size) (hl : TokR w B A n l) (hn : (n : Int) ≤ 140737488355328) (hok : Nm.AllOk l) :
    Calls Tryd.prog 116 #[.agg #[.int .i64 p, .int .i64 x], .slice A n c] w fun e w' => e = .returned (.bool (Nm.ratomLeB (p, x) l)) ∧ Below w.heap.size w w' := by
  have HB0 : Hid (Below w.heap.size w (w.alloc (.cells #[.int .i64 p, .int .i64 x] 68))) := (Below.refl _ _).alloc (Nat.le_refl _) _
  have HK0 : Hid (Blk (w.alloc (.cells #[.int .i64 p, .int .i64 x] 68)) w.heap.size 68 #[.int .i64 p, .int .i64 x]) := Blk.made _ _ _
  have HOK := Lib.hid hok
  clear hok
  go_enter Tryd.func116, Tryd.ntmps116
  go_wp2
  go_loopw [9] (fun i wr => ∃ k : Nat, k ≤ n ∧ i = .int .i64 k ∧ Hid (∀ j, j < k → ¬ Nm.RFits (p, x) (l.getD j (0, 0))) ∧ Below w.heap.size w wr ∧ Blk wr w.heap.size 68 #[.int .i64 p, .int .i64 x]) (fun i _ => n - (intOf i).toNat)
  case atStart => exact ⟨0, Nat.zero_le _, rfl, (fun j hj => absurd hj (by omega)), HB0.out, HK0.out⟩
  case round =>
    obtain ⟨k, hk, rfl, HA, hbel, hblk⟩ := hrel
    by_cases hlt : k < n
    · obtain ⟨b, off, rfl, hb, hc⟩ := hl.2 (by omega)
      obtain ⟨c1, c2⟩ := hc k hlt
      have HL := Lib.hid hl.1
      have hat := (Nm.atOk_iff _).1 (HOK.out k (by rw [hl.1]; exact hlt))
      obtain ⟨t, ht⟩ : ∃ t, l.getD k (0, 0) = t := ⟨_, rfl⟩
      rw [ht] at c1 c2 hat
      obtain ⟨q, y⟩ := t
      simp only at hat
      obtain ⟨a1, a2, a3, a4⟩ := hat
      have HT := Lib.hid ht
      have k1 := (hbel.cell (p := ⟨b, off + k * 2, none⟩) (by show b < _; omega)).trans c1
      have k2 := (hbel.cell (p := ⟨b, off + k * 2 + 1, none⟩) (by show b < _; omega)).trans c2
      have hlt2 := hblk.lt
      have k3 : (wr.alloc (.cells #[.int .i64 q, .int .i64 y] 68)).cell? ⟨w.heap.size, 0, none⟩ = some (.int .i64 p) := (hblk.alloc _).cell 0
      have k4 : (wr.alloc (.cells #[.int .i64 q, .int .i64 y] 68)).cell? ⟨w.heap.size, 1, none⟩ = some (.int .i64 x) := (hblk.alloc _).cell 1
      have HBA := Lib.hid (hbel.alloc hbel.size (.cells #[.int .i64 q, .int .i64 y] 68))
      have HKA := Lib.hid (hblk.alloc (.cells #[.int .i64 q, .int .i64 y] 68))
      clear c1 c2 hc hl ht hblk
      have yes_of : Nm.RFits (p, x) (q, y) → Hid (Nm.ratomLeB (p, x) l = true) := fun h => (Nm.ratomLeB_iff _ _).2 ⟨k, by rw [HL.out]; exact hlt, by rw [HT.out]; exact h⟩
      have no_of : ¬ Nm.RFits (p, x) (q, y) → Hid (∀ j, j < k + 1 → ¬ Nm.RFits (p, x) (l.getD j (0, 0))) := by
        intro h j hj
        by_cases e : j = k
        · subst e; rw [HT.out]; exact h
        · exact HA.out j (by omega)
      by_cases epq : p = q
      · subst epq
        by_cases hx : x ≤ y
        · skip
          have HF := yes_of (.inl ⟨rfl, hx⟩)
          clear yes_of no_of 
          go_wp2
          go_ret
          exact ⟨by rw [HF.out]; rfl, HBA.out⟩
        · have dx : decide (x ≤ y) = false := by simp; omega
          by_cases ep : p = -1
          · subst ep
            have HA2 := no_of (fun h => by
              rcases h with h | h
              · exact hx h.2
              · exact absurd h.2.1 (by simp))
            clear yes_of no_of hx
            go_wp2
            go_roundw
            case rel => exact ⟨k + 1, by omega, by go_num, HA2.out, HBA.out, HKA.out⟩
            case measure => simp [intOf]; omega
          · have dp : (p == -1) = false := by simpa using ep
            have HA2 := no_of (fun h => by
              rcases h with h | h
              · exact hx h.2
              · exact ep h.1)
            clear yes_of no_of hx ep
            go_wp2
            go_roundw
            case rel => exact ⟨k + 1, by omega, by go_num, HA2.out, HBA.out, HKA.out⟩
            case measure => simp [intOf]; omega
      · have dq : (p == q) = false := by simpa using epq
        by_cases ep : p = -1
        · subst ep
          have dqn : (q != -1) = true := by simp; exact fun h => epq h.symm
          have dq0 : 0 ≤ q := by omega
          by_cases hx : x ≤ y + 1
          · skip
            have HF := yes_of (.inr ⟨rfl, dq0, hx⟩)
            clear yes_of no_of epq
            go_wp2
            go_ret
            exact ⟨by rw [HF.out]; rfl, HBA.out⟩
          · have dx : decide (x ≤ y + 1) = false := by simp; omega
            have HA2 := no_of (fun h => by
              rcases h with h | h
              · exact epq h.1
              · exact hx h.2.2)
            clear yes_of no_of hx epq
            go_wp2
            go_roundw
            case rel => exact ⟨k + 1, by omega, by go_num, HA2.out, HBA.out, HKA.out⟩
            case measure => simp [intOf]; omega
        · have dp : (p == -1) = false := by simpa using ep
          have HA2 := no_of (fun h => by
              rcases h with h | h
              · exact epq h.1
              · exact ep h.1)
          clear yes_of no_of epq ep
          go_wp2
          go_roundw
          case rel => exact ⟨k + 1, by omega, by go_num, HA2.out, HBA.out, HKA.out⟩
          case measure => simp [intOf]; omega
    · have HF : Hid (Nm.ratomLeB (p, x) l = false) := Nm.ratomLeB_no (fun ⟨j, hj, h1⟩ => HA.out j (by have := hl.1; omega) h1)
      clear hl
      go_wp2
      go_ret
      exact ⟨by rw [HF.out]; rfl, hbel⟩

end Go.Proofs.YtmbcjddahncocaaDoor

namespace Go.Proofs.YtmbcjddahncocaaDoor
namespace Nm

theorem rle_value {s : Int} {env : List Int} (he : EnvOf s env) {a b : List At} (hb : ROk s b) (h : ∀ k, k < a.length → ratomLe (a.getD k (0, 0)) b) : value env a ≤ value env b := by
  refine value_le (value_ge _ _) fun x hx => ?_
  obtain ⟨k, hk, rfl⟩ := getD_of_mem hx
  obtain ⟨j, hj, hf⟩ := h k hk
  have h3 := value_mem (env := env) (mem_getD hj)
  have h4 := hb.2.2.2.2.1 j hj
  generalize a.getD k (0, 0) = x at hf ⊢
  generalize b.getD j (0, 0) = y at hf h3 h4
  obtain ⟨p, u⟩ := x
  obtain ⟨q, v⟩ := y
  simp only [RFits] at hf h4
  rcases hf with ⟨rfl, h1⟩ | ⟨rfl, h1, h2⟩
  · by_cases ep : p = -1
    · simp only [val, ep, if_true] at h3 ⊢; omega
    · simp only [val, ep, if_false] at h3 ⊢; omega
  · rcases h4 with e | e
    · omega
    · have := he.2.1 q e
      simp only [val, if_true, show ¬ q = -1 by omega, if_false] at h3 ⊢
      omega

/-- the env of a sign that is great at p -/
def rpeak (s p : Int) : List Int := (List.range 5).map fun (i : Nat) => if Sg.has s i = true then (if (i : Int) = p then 1000 else 1) else 0
/-- the first k values of an env of a sign; where the answer is no, of the one that is great at p -/
def Part (s p : Int) (yes : Bool) (k : Nat) (env : List Int) : Prop := env.length = k ∧ ∀ j, j < k → (Sg.has s j = true → 1 ≤ env.getD j 0 ∧ env.getD j 0 ≤ 1000) ∧ (Sg.has s j = false → env.getD j 0 = 0) ∧ (yes = false → env.getD j 0 = (rpeak s p).getD j 0)
theorem Part.nil (s p : Int) (yes : Bool) : Part s p yes 0 [] := ⟨rfl, fun j hj => absurd hj (by omega)⟩
theorem Part.env {s p : Int} {yes : Bool} {env : List Int} (h : Part s p yes 5 env) : EnvOf s env ∧ envOk env = true := by
  have hall : ∀ x ∈ env, 0 ≤ x ∧ x ≤ 1000 := by
    intro x hx
    obtain ⟨j, hj, rfl⟩ := List.mem_iff_getElem.1 hx
    have h1 := h.2 j (by rw [← h.1]; exact hj)
    rw [List.getD_eq_getElem?_getD, List.getElem?_eq_getElem hj, Option.getD_some] at h1
    cases hh : Sg.has s j with
    | true => have := h1.1 hh; omega
    | false => have := h1.2.1 hh; omega
  refine ⟨⟨fun x hx => (hall x hx).1, fun p hp => ?_, fun p h0 h5' hp => ?_⟩, ?_⟩
  · have hb := has_bd hp
    exact ((h.2 p.toNat (by omega)).1 (by rw [show ((p.toNat : Nat) : Int) = p by omega]; exact hp)).1
  · exact (h.2 p.toNat (by omega)).2.1 (by rw [show ((p.toNat : Nat) : Int) = p by omega]; exact hp)
  · simp only [envOk, Bool.and_eq_true, decide_eq_true_eq, List.all_eq_true]
    exact ⟨h.1, fun x hx => hall x hx⟩
end Nm
end Go.Proofs.YtmbcjddahncocaaDoor

namespace Go.Proofs.YtmbcjddahncocaaDoor
open Go.RowKit

/-- a slice of levels: n cells below block B, each a slice of tokens that lie below B -/
def LvlR (w : World) (B : Nat) (A : Option Addr) (n : Nat) (ls : List (List (Int × Int))) : Prop :=
  ls.length = n ∧ (0 < n → ∃ b off, A = some ⟨b, off, none⟩ ∧ b < B ∧ ∀ k, k < n → ∃ Ak nk ck, w.cell? ⟨b, off + k, none⟩ = some (.slice Ak nk ck) ∧ TokR w B Ak nk (ls.getD k []) ∧ (nk : Int) ≤ 9223372036854775807)

theorem LvlR.below {w w' : World} {B : Nat} {A : Option Addr} {n : Nat} {ls : List (List (Int × Int))} (h : LvlR w B A n ls) (hb : Below B w w') : LvlR w' B A n ls :=
  ⟨h.1, fun h0 => by
    obtain ⟨b, off, rfl, hB, hc⟩ := h.2 h0
    refine ⟨b, off, rfl, hB, fun k hk => ?_⟩
    obtain ⟨Ak, nk, ck, c, t, m⟩ := hc k hk
    exact ⟨Ak, nk, ck, (hb.cell (p := ⟨b, off + k, none⟩) hB).trans c, t.below hb, m⟩⟩
theorem LvlR.more {w : World} {B B' : Nat} {A : Option Addr} {n : Nat} {ls : List (List (Int × Int))} (h : LvlR w B A n ls) (hB : B ≤ B') : LvlR w B' A n ls :=
  ⟨h.1, fun h0 => by
    obtain ⟨b, off, rfl, hb, hc⟩ := h.2 h0
    refine ⟨b, off, rfl, by omega, fun k hk => ?_⟩
    obtain ⟨Ak, nk, ck, c, t, m⟩ := hc k hk
    exact ⟨Ak, nk, ck, c, t.more hB, m⟩⟩

/-- what stands for one token -/
def piece (ls : List (List (Int × Int))) (t : Int × Int) : Option (List (Int × Int)) := if t.1 = 4 then (if t.2 < (ls.length : Int) then some (ls.getD t.2.toNat []) else none) else some [t]
def sub (ls : List (List (Int × Int))) : List (Int × Int) → Option (List (Int × Int))
  | [] => some []
  | t :: r => (piece ls t).bind fun p => (sub ls r).map fun q => p ++ q
end Go.Proofs.YtmbcjddahncocaaDoor

namespace Go.Proofs.YtmbcjddahncocaaDoor

theorem eval_some {env : List Int} {l : List (Int × Int)} (hok : Lv.levelOk l = true) : ∃ v, Lv.eval env l = some v := by
  obtain ⟨u, hu⟩ := Lv.run_of_ok (env := env) hok
  exact ⟨u, by unfold Lv.eval; rw [if_pos hok, hu]⟩
end Go.Proofs.YtmbcjddahncocaaDoor

namespace Go.Proofs.YtmbcjddahncocaaDoor.Dc
open Go.Proofs.YtmbcjddahncocaaDoor.Nm

/-- the residual of a level for a sign -/
abbrev rs (l : List (Int × Int)) (s : Int) : List (Int × Int) := rnorm (wl s l)
theorem ok_two {l : List (Int × Int)} (h : Lv.levelOk l = true) : 1 ≤ l.length ∧ l.length ≤ 24 := by
  simp only [Lv.levelOk, Bool.and_eq_true, decide_eq_true_eq] at h
  omega
theorem wl_fine2 {s : Int} {l : List (Int × Int)} (h : Lv.levelOk l = true) : wl s l ≠ [] ∧ Pst s (wl s l) ∧ AllOk (wl s l) ∧ ∀ x ∈ wl s l, x.2 ≤ 24 := by
  obtain ⟨a, ha⟩ := wrun_one (s := s) h
  have hl := (ok_two h).2
  have hf := wfine_run (k := 0) (fun a ha => by simp at ha) ha
  have hfa := hf a (by simp)
  rw [wl_of ha]
  exact ⟨hfa.1, hfa.2.1, hf.allOk (by omega) (by simp), fun x hx => by have := (hfa.2.2 x hx).2.2.2; omega⟩
theorem rs_rok {s : Int} {l : List (Int × Int)} (h : Lv.levelOk l = true) (hs : Sg.isSign s = true) : ROk s (rs l s) :=
  have hf := wl_fine2 (s := s) h
  rnorm_rok hs hf.1 hf.2.1 hf.2.2.1
theorem rs_small {s : Int} {l : List (Int × Int)} (h : Lv.levelOk l = true) : ∀ x ∈ rs l s, x.2 ≤ 24 := fun x hx => (wl_fine2 (s := s) h).2.2.2 x (rnorm_sub hx)

/-- the env of a sign that is N at p -/
def gpeak (N s p : Int) : List Int := (List.range 5).map fun (i : Nat) => if Sg.has s i = true then (if (i : Int) = p then N else 1) else 0
theorem gpeak_len (N s p : Int) : (gpeak N s p).length = 5 := by simp [gpeak]
theorem gpeak_get (N s p : Int) (k : Nat) (hk : k < 5) : (gpeak N s p).getD k 0 = if Sg.has s k = true then (if (k : Int) = p then N else 1) else 0 := by
  simp [gpeak, List.getD_eq_getElem?_getD, hk]
theorem gpeak_env {N s p : Int} (hN : 1 ≤ N) : EnvOf s (gpeak N s p) := by
  refine ⟨fun x hx => ?_, fun q hq => ?_, fun q h0 h5 hq => ?_⟩
  · simp only [gpeak, List.mem_map] at hx
    obtain ⟨i, _, rfl⟩ := hx
    split
    · split <;> omega
    · omega
  · have hb := has_bd hq
    rw [gpeak_get _ _ _ _ (by omega), show ((q.toNat : Nat) : Int) = q by omega, if_pos hq]
    split <;> omega
  · rw [gpeak_get _ _ _ _ (by omega), show ((q.toNat : Nat) : Int) = q by omega, if_neg (by rw [hq]; decide)]
/-- an atom that no atom of b serves for is greater at its peak -/
theorem peak_gt {N M s : Int} {b : List At} {x : At} (hb : ROk s b) (hbM : ∀ y ∈ b, y.2 ≤ M) (hN : M + 2 ≤ N) (hM : 0 ≤ M) (hx0 : -1 ≤ x.1) (hx5 : x.1 < 5) (hxo : 0 ≤ x.2) (hxs : x.1 = -1 ∨ Sg.has s x.1 = true) (h : ¬ ratomLe x b) :
    value (gpeak N s x.1) b < val (gpeak N s x.1) x := by
  obtain ⟨p, u⟩ := x
  simp only at hx0 hx5 hxo hxs h ⊢
  have H : ∀ y ∈ b, val (gpeak N s p) y ≤ val (gpeak N s p) (p, u) - 1 := by
    intro y hy
    obtain ⟨j, hj, rfl⟩ := getD_of_mem hy
    have hby := hb.2.2.1.mem hy
    have h5 := hbM _ hy
    have hpy := hb.2.2.2.2.1 j hj
    have hn : ¬ RFits (p, u) (b.getD j (0, 0)) := fun hf => h ⟨j, hj, hf⟩
    generalize b.getD j (0, 0) = y at hby h5 hpy hn ⊢
    obtain ⟨q, v⟩ := y
    simp only [RFits] at hn
    simp only at hby h5 hpy
    have hq1 : ∀ _ : ¬ q = -1, (gpeak N s p).getD q.toNat 0 = if q = p then N else 1 := by
      intro eq
      rw [gpeak_get _ _ _ _ (by omega), show ((q.toNat : Nat) : Int) = q by omega]
      rcases hpy with e | e
      · exact absurd e eq
      · rw [if_pos e]
    by_cases ep : p = -1
    · subst ep
      simp only [val, if_true]
      by_cases eq : q = -1
      · simp only [eq, if_true]; omega
      · simp only [eq, if_false]
        rw [hq1 eq, if_neg eq]
        omega
    · have hpp : (gpeak N s p).getD p.toNat 0 = N := by
        rw [gpeak_get _ _ _ _ (by omega), show ((p.toNat : Nat) : Int) = p by omega]
        rcases hxs with e | e
        · exact absurd e ep
        · rw [if_pos e, if_pos rfl]
      simp only [val, ep, if_false]
      rw [hpp]
      by_cases eq : q = -1
      · simp only [eq, if_true]; omega
      · simp only [eq, if_false]
        rw [hq1 eq]
        by_cases eqp : q = p
        · rw [if_pos eqp]; omega
        · rw [if_neg eqp]; omega
  have hv0 : 1 ≤ val (gpeak N s p) (p, u) := by
    by_cases ep : p = -1
    · have hb1 := hb.2.1
      have := H _ (Nm.mem_getD (l := b) (k := 0) (by omega))
      have h0 := hb.2.2.1.mem (Nm.mem_getD (l := b) (k := 0) (by omega))
      have h1 : (b.getD 0 (0, 0)).2 ≤ val (gpeak N s p) (b.getD 0 (0, 0)) := val_ge (gpeak_env (by omega)).1 _
      omega
    · have hpp : (gpeak N s p).getD p.toNat 0 = N := by
        rw [gpeak_get _ _ _ _ (by omega), show ((p.toNat : Nat) : Int) = p by omega]
        rcases hxs with e | e
        · exact absurd e ep
        · rw [if_pos e, if_pos rfl]
      simp only [val, ep, if_false]
      rw [hpp]; omega
  have := value_le (env := gpeak N s p) (l := b) (v := val (gpeak N s p) (p, u) - 1) (by omega) H
  omega
/-- residuals are compared as their values are -/
theorem resid_sem {s : Int} {a b : List At} (ha : ROk s a) (hb : ROk s b) : (∀ k, k < a.length → ratomLe (a.getD k (0, 0)) b) ↔ ∀ env : List Int, env.length = 5 → EnvOf s env → value env a ≤ value env b := by
  constructor
  · exact fun h env _ he => rle_value he hb h
  · intro h k hk
    apply Classical.byContradiction
    intro hn
    have hx := Nm.mem_getD hk
    have hax := ha.2.2.1.mem hx
    have h1 := peak_gt (N := 2000) (M := 1000) hb (fun y hy => (hb.2.2.1.mem hy).2.2.2) (by omega) (by omega) hax.1 hax.2.1 hax.2.2.1 (ha.2.2.2.2.1 k hk) hn
    have h2 := h _ (gpeak_len 2000 s _) (gpeak_env (s := s) (p := (a.getD k (0, 0)).1) (by omega : (1 : Int) ≤ 2000))
    have h3 := value_mem (env := gpeak 2000 s (a.getD k (0, 0)).1) hx
    omega

/-- the value of a level, for whatever values of the parameters -/
def ev (env : List Int) (l : List (Int × Int)) : Int := (Lv.eval env l).getD 0
theorem ev_resid {s : Int} {env : List Int} (he : EnvOf s env) {l : List (Int × Int)} (h : Lv.levelOk l = true) : ev env l = value env (rs l s) := by
  unfold ev
  rw [eval_resid he h]
  rfl
/-- every env has a sign -/
theorem sign_of {env : List Int} (h5 : env.length = 5) (hp : Pos env) : ∃ S : Nat, S < 32 ∧ EnvOf (S : Int) env := by
  have hs := Sg.bits_sign h5
  have hb : 0 ≤ Sg.bits env ∧ Sg.bits env ≤ 31 := by simpa [Sg.isSign] using hs
  refine ⟨(Sg.bits env).toNat, by omega, ?_⟩
  rw [show (((Sg.bits env).toNat : Nat) : Int) = Sg.bits env by omega]
  have hh := fun k hk => Sg.bits_has h5 k hk
  refine ⟨hp, fun p h => ?_, fun p h0 h5' h => ?_⟩
  · have hbd := has_bd h
    have := hh p.toNat (by omega)
    rw [show ((p.toNat : Nat) : Int) = p by omega, h] at this
    have := of_decide_eq_true this.symm
    omega
  · have := hh p.toNat (by omega)
    rw [show ((p.toNat : Nat) : Int) = p by omega, h] at this
    have := of_decide_eq_false this.symm
    have := hp.get p.toNat
    omega
theorem isSign_nat {S : Nat} (h : S < 32) : Sg.isSign (S : Int) = true := by simp [Sg.isSign]; omega

open Classical in
/-- LevelLe's answer -/
noncomputable def leR (a b : List (Int × Int)) : Bool := decide (Lv.levelOk a = true ∧ Lv.levelOk b = true ∧ ∀ S : Nat, S < 32 → residLe (S : Int) (rs a S) (rs b S) = true)
theorem leR_iff (a b : List (Int × Int)) : leR a b = true ↔ Lv.levelOk a = true ∧ Lv.levelOk b = true ∧ ∀ S : Nat, S < 32 → residLe (S : Int) (rs a S) (rs b S) = true := by simp [leR]
/-- one level is at most another just where it is so for all values -/
theorem le_sem {a b : List (Int × Int)} (ha : Lv.levelOk a = true) (hb : Lv.levelOk b = true) : leR a b = true ↔ ∀ env : List Int, env.length = 5 → Pos env → ev env a ≤ ev env b := by
  rw [leR_iff]
  constructor
  · rintro ⟨_, _, h⟩ env h5 hp
    obtain ⟨S, hS, he⟩ := sign_of h5 hp
    rw [ev_resid he ha, ev_resid he hb]
    have h1 := (residLe_iff _ _ _).1 (h S hS)
    exact rle_value he h1.2.1 h1.2.2
  · intro h
    refine ⟨ha, hb, fun S hS => ?_⟩
    have hra := rs_rok ha (isSign_nat hS)
    have hrb := rs_rok hb (isSign_nat hS)
    refine (residLe_iff _ _ _).2 ⟨hra, hrb, (resid_sem hra hrb).2 fun env h5 he => ?_⟩
    have := h env h5 he.1
    rwa [ev_resid he ha, ev_resid he hb] at this
theorem le_refl {a : List (Int × Int)} (ha : Lv.levelOk a = true) : leR a a = true := (le_sem ha ha).2 fun _ _ _ => Int.le_refl _
theorem le_trans {a b c : List (Int × Int)} (h1 : leR a b = true) (h2 : leR b c = true) : leR a c = true := by
  have i1 := (leR_iff a b).1 h1
  have i2 := (leR_iff b c).1 h2
  exact (le_sem i1.1 i2.2.1).2 fun env h5 hp => Int.le_trans ((le_sem i1.1 i1.2.1).1 h1 env h5 hp) ((le_sem i2.1 i2.2.1).1 h2 env h5 hp)

end Go.Proofs.YtmbcjddahncocaaDoor.Dc
