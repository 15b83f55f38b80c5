/- PairsUnder of both sides, over a slice that reads as pairs. -/
/- The laws' own helpers on constraints and slices of them: sizes, copies, comparison, marks. -/
import Derived.Test.YtgebjnoicgmdoaaGreatDoorPairS
import Derived.Test.YtgebjnoicgmdoaaGreatDoorPrR
import Derived.Test.YtgebjnoicgmdoaaGreatDoorSucc
import Derived.Test.YtgebjnoicgmdoaaGreatDoorPairM
import Derived.Test.YtgebjnoicgmdoaaGreatDoorCoTab

namespace Go.Proofs.YtgebjnoicgmdoaaGreatDoor
open Go.RowKit
open Cs (Cn)

theorem succR_len {x q : List (Int × Int)} (h : succR x 1 = some q) : q.length ≤ 24 := by
  have ha : Lv.levelOk x = true := by
    have h' := h
    unfold succR at h'
    split at h'
    · rename_i hk; exact hk.1
    · cases h'
  have h1 := (eval_succ (n := 1) h (Dc.ev_some (env := []) ha)).2.1
  simp only [Lv.levelOk, Bool.and_eq_true, decide_eq_true_eq] at h1
  exact h1.1.2
set_option maxRecDepth 100000 in
set_option maxHeartbeats 3200000 in
theorem implPairsUnder_reads (w : World) (B : Nat) (A : Option Addr) (n c : Nat) (l : List Cn) (A2 : Option Addr) (n2 c2 : Nat) (ps : List Pr) (T : TypeId) (pv : Value) (Tc : TypeId) (pc : Value) (h0 : 1 < B) (h0c : 0 < B) (hB : B ≤ w.heap.size)
    (hA : SlOk A n c) (hl : ConR w B A n l) (hn : (n : Int) ≤ 140737488355328) (hp : PrR w B A2 n2 ps) (hm : pbulk ps ≤ 1048576) (hE : ErrAt w T pv) (hEc : ErrCAt w Tc pc) :
    Calls Tryz.prog 46 #[.slice A n c, .slice A2 n2 c2] w fun e w' => e = .returned (.bool (pairsR l ps)) ∧ Below w.heap.size w w' := by
  have HE := Lib.hid hE
  have HEc := Lib.hid hEc
  have HL := Lib.hid hl
  have HS := Lib.hid hA
  have HP := Lib.hid hp
  have HN : Hid (ps.length = n2) := hp.1
  have hn2 : n2 ≤ 1048576 := by have := hp.1; unfold pbulk at hm; omega
  clear hE hEc hl hA hp
  go_enter Tryz.func46, Tryz.ntmps46
  go_wp2_with fail
  refine (implConsOk_any w B A n c l hB HL.out hn).mono ?_
  rintro e w1 ⟨rfl, hb1⟩
  have HB1 := Lib.hid hb1
  clear hb1
  cases hc : consOkR l with
  | false =>
    have HR := Lib.hid (pairsR_c (ps := ps) hc)
    clear hc
    go_wp2
    go_ret
    exact ⟨by rw [HR.out]; rfl, HB1.out⟩
  | true =>
    have HC := Lib.hid hc
    clear hc
    go_wp2
    go_loopw [12] (fun i wr => ∃ k : Nat, k ≤ n2 ∧ i = .int .i64 k ∧ Hid (Below w.heap.size w wr) ∧ Hid (∀ j, j < k → pairR l (ps.getD j pr0) = true)) (fun i _ => n2 - (intOf i).toNat)
    case atStart => exact ⟨0, Nat.zero_le _, rfl, HB1.out, fun j hj => absurd hj (by omega)⟩
    case round =>
      clear HB1
      obtain ⟨k, hk, rfl, HB, HT⟩ := hrel
      have hszr := HB.out.size
      by_cases hlt : k < n2
      · have hq := HP.out.below (HB.out.mono hB)
        obtain ⟨g, off, rfl, _, hc2⟩ := hq.2 (by omega)
        obtain ⟨Ak, nx, ck, Ck, ny, dk, a0, a1, a2, ra, rb', _, _⟩ := hc2 k hlt
        have hgk := ptot_get ps k (by rw [HN.out]; exact hlt)
        obtain ⟨t, ht⟩ : ∃ t, ps.getD k pr0 = t := ⟨_, rfl⟩
        rw [ht] at a1 ra rb' hgk
        obtain ⟨x, s, y⟩ := t
        simp only at a1 ra rb' hgk
        have HT1 := Lib.hid ht
        have hnx := ra.1
        have hny := rb'.1
        have hxy : nx ≤ 1048576 ∧ ny ≤ 1048576 := by unfold pbulk at hm; omega
        obtain ⟨hx1, hx2⟩ := hxy
        have HRA := Lib.hid ra
        have HRB := Lib.hid rb'
        clear hq hc2 ra rb' ht hnx hny hgk
        go_wp2_with fail
        have hbx : Below wr.heap.size wr (wr.alloc (.cells #[.slice Ak nx ck, .bool s, .slice Ck ny dk] 124)) := (Below.refl _ _).alloc (Nat.le_refl _) _
        have hbb := HB.out.trans (hbx.mono hszr)
        refine (pairUnder_any _ wr.heap.size A n c l _ nx _ x s _ ny _ y T pv Tc pc (by omega) (by omega) (by simp) HS.out ((HL.out.below (hbb.mono hB)).more (by omega)) hn ((HRA.out.more (by omega)).below hbx) (by omega) ((HRB.out.more (by omega)).below hbx) (by omega) (HE.out.below (hbb.mono hB) h0) (HEc.out.below (hbb.mono hB) h0c)).mono ?_
        rintro e w2 ⟨rfl, hb2⟩
        have HB2 := Lib.hid (hbb.trans (hb2.mono (by simp; omega)))
        clear hb2 hbx hbb
        cases hr : pairR l (x, s, y) with
        | false =>
          have HR : Hid (pairsR l ps = false) := pairsR_f (k := k) (by rw [HN.out]; exact hlt) (by rw [HT1.out]; exact hr)
          clear hr
          go_wp2
          go_ret
          exact ⟨by rw [HR.out]; rfl, HB2.out⟩
        | true =>
          have HT2 : Hid (∀ j, j < k + 1 → pairR l (ps.getD j pr0) = true) := fun j hj => by
            by_cases e : j < k
            · exact HT.out j e
            · obtain rfl : j = k := by omega
              rw [HT1.out]
              exact hr
          clear hr
          go_wp2
          go_roundw
          case rel => exact ⟨k + 1, by omega, by go_num, HB2.out, HT2.out⟩
          case measure => simp [intOf]; omega
      · obtain rfl : k = n2 := by omega
        have HR : Hid (pairsR l ps = true) := pairsR_t HC.out fun j hj => HT.out j (by rw [← HN.out]; exact hj)
        go_wp2
        go_ret
        exact ⟨by rw [HR.out]; rfl, HB.out⟩

set_option maxRecDepth 100000 in
set_option maxHeartbeats 3200000 in
theorem specPairsUnder_reads (w : World) (B b0 o0 n c : Nat) (l : List Cn) (A2 : Option Addr) (n2 c2 : Nat) (ps : List Pr) (hB : B ≤ w.heap.size) (hl : ConR w B (some ⟨b0, o0, none⟩) n l) (hn : (n : Int) ≤ 140737488355328) (hp : PrR w B A2 n2 ps) (hm : pbulk ps ≤ 1048576) :
    Calls Tryz.prog 44 #[.slice (some ⟨b0, o0, none⟩) n c, .slice A2 n2 c2] w fun e w' => e = .returned (.bool (pairsR l ps)) ∧ Below w.heap.size w w' := by
  have HL := Lib.hid hl
  have HP := Lib.hid hp
  have HN : Hid (ps.length = n2) := hp.1
  have hn2 : n2 ≤ 1048576 := by have := hp.1; unfold pbulk at hm; omega
  clear hl hp
  go_enter Tryz.func44, Tryz.ntmps44
  go_wp2
  go_loopw [5] (fun i wr => ∃ k : Nat, k ≤ n2 ∧ i = .int .i64 k ∧ Hid (Below w.heap.size w wr) ∧ Hid (∀ j, j < k → pairR l (ps.getD j pr0) = true)) (fun i _ => n2 - (intOf i).toNat)
  case atStart => exact ⟨0, Nat.zero_le _, rfl, Below.refl _ _, fun j hj => absurd hj (by omega)⟩
  case round =>
    obtain ⟨k, hk, rfl, HB, HT⟩ := hrel
    have hszr := HB.out.size
    by_cases hlt : k < n2
    · have hki : (k : Int) < (n2 : Int) := by omega
      have hq := HP.out.below (HB.out.mono hB)
      obtain ⟨g, off, rfl, hgB, hc2⟩ := hq.2 (by omega)
      obtain ⟨Ak, nx, ck, Ck, ny, dk, a0, a1, a2, ra, rb', _, _⟩ := hc2 k hlt
      have hgk := ptot_get ps k (by rw [HN.out]; exact hlt)
      obtain ⟨t, ht⟩ : ∃ t, ps.getD k pr0 = t := ⟨_, rfl⟩
      rw [ht] at a1 ra rb' hgk
      obtain ⟨x, s, y⟩ := t
      simp only at a1 ra rb' hgk
      have HT1 := Lib.hid ht
      have hnx := ra.1
      have hny := rb'.1
      have hxy : nx ≤ 1048576 ∧ ny ≤ 1048576 := by unfold pbulk at hm; omega
      obtain ⟨hx1, hx2⟩ := hxy
      have HRA := Lib.hid ra
      have HRB := Lib.hid rb'
      have HA2 : Hid (∀ X : World, Below wr.heap.size wr X → X.cell? ⟨g, off + k * 3 + 2, none⟩ = some (.slice Ck ny dk)) := fun X h => (h.cell (p := ⟨g, off + k * 3 + 2, none⟩) (by show g < _; omega)).trans a2
      have fin : ∀ {R : Bool}, pairR l (x, s, y) = R → (R = false → Hid (pairsR l ps = false)) ∧ (R = true → Hid (∀ j, j < k + 1 → pairR l (ps.getD j pr0) = true)) := fun {R} hr =>
        ⟨fun e => pairsR_f (k := k) (by rw [HN.out]; exact hlt) (by rw [HT1.out, hr, e]), fun e j hj => by
          by_cases e2 : j < k
          · exact HT.out j e2
          · obtain rfl : j = k := by omega
            rw [HT1.out, hr, e]⟩
      have HFIN : Hid (∀ {R : Bool}, pairR l (x, s, y) = R → (R = false → Hid (pairsR l ps = false)) ∧ (R = true → Hid (∀ j, j < k + 1 → pairR l (ps.getD j pr0) = true))) := fin
      clear hq hc2 ra rb' ht hnx hny hgk fin
      cases s with
      | false =>
        go_wp2_with fail
        refine (specLeUnder_any wr B b0 o0 n c l Ak nx ck x Ck ny dk y (by omega) (HL.out.below (HB.out.mono hB)) hn HRA.out (by omega) HRB.out (by omega)).mono ?_
        rintro e w2 ⟨rfl, hb2⟩
        have HB2 := Lib.hid (HB.out.trans (hb2.mono hszr))
        have hf := HFIN.out (R := leUnR l x y) (pairR_f l x y)
        obtain ⟨R, hR⟩ : ∃ R, leUnR l x y = R := ⟨_, rfl⟩
        rw [hR] at hf ⊢
        clear hb2 hR HA2
        cases R with
        | false =>
          have HR := hf.1 rfl
          clear hf
          go_wp2
          go_ret
          exact ⟨by rw [HR.out]; rfl, HB2.out⟩
        | true =>
          have HT2 := hf.2 rfl
          clear hf
          go_wp2
          go_roundw
          case rel => exact ⟨k + 1, by omega, by go_num, HB2.out, HT2.out⟩
          case measure => simp [intOf]; omega
      | true =>
        have HQ := Lib.hid (specSucc_any wr B Ak nx ck x 1 (by omega) HRA.out (by omega))
        go_wp2_with fail
        refine HQ.out.mono ?_
        rintro e w2 ⟨A3, c3, rfl, ho3, hb2⟩
        have HB2 := Lib.hid (HB.out.trans (hb2.mono hszr))
        have HO3 := Lib.hid (OwnT.reads ho3)
        have hs2 := hb2.size
        have HRB2 := Lib.hid (HRB.out.below (hb2.mono (by omega)))
        have b2 := HA2.out w2 hb2
        clear hb2 ho3 HQ a0 a1 a2 HA2
        cases hq : succR x 1 with
        | none =>
          have hf := HFIN.out (R := false) (pairR_n hq)
          have HR := hf.1 rfl
          have HLN : Hid (leUnR l [] y = false) := leUnR_a rfl
          rw [hq] at HO3
          simp only [Option.getD_none, Option.isSome_none, List.length_nil] at HO3 ⊢
          clear hf hq
          go_wp2_with fail
          refine (specLeUnder_any w2 w2.heap.size b0 o0 n c l A3 0 c3 [] Ck ny dk y (Nat.le_refl _) ((HL.out.below (HB2.out.mono hB)).more (by omega)) hn HO3.out (by omega) (HRB2.out.more (by omega)) (by omega)).mono ?_
          rintro e w3 ⟨rfl, hb3⟩
          have HB3 := Lib.hid (HB2.out.trans (hb3.mono (by omega)))
          rw [HLN.out]
          clear hb3
          go_wp2
          go_ret
          exact ⟨by rw [HR.out]; rfl, HB3.out⟩
        | some q =>
          have hf := HFIN.out (R := leUnR l q y) (pairR_s hq)
          rw [hq] at HO3
          simp only [Option.getD_some, Option.isSome_some] at HO3 ⊢
          have hql : q.length ≤ 24 := succR_len hq
          obtain ⟨nq, hnq⟩ : ∃ t, q.length = t := ⟨_, rfl⟩
          rw [hnq] at HO3 hql ⊢
          clear hq hnq
          go_wp2_with fail
          refine (specLeUnder_any w2 w2.heap.size b0 o0 n c l A3 nq c3 q Ck ny dk y (Nat.le_refl _) ((HL.out.below (HB2.out.mono hB)).more (by omega)) hn HO3.out (by omega) (HRB2.out.more (by omega)) (by omega)).mono ?_
          rintro e w3 ⟨rfl, hb3⟩
          have HB3 := Lib.hid (HB2.out.trans (hb3.mono (by omega)))
          obtain ⟨R, hR⟩ : ∃ R, leUnR l q y = R := ⟨_, rfl⟩
          rw [hR] at hf ⊢
          clear hb3 hR
          cases R with
          | false =>
            have HR := hf.1 rfl
            clear hf
            go_wp2
            go_ret
            exact ⟨by rw [HR.out]; rfl, HB3.out⟩
          | true =>
            have HT2 := hf.2 rfl
            clear hf
            go_wp2
            go_roundw
            case rel => exact ⟨k + 1, by omega, by go_num, HB3.out, HT2.out⟩
            case measure => simp [intOf]; omega
    · have hkn : ¬ (k : Int) < (n2 : Int) := by omega
      have HE : Hid (pairsR l ps = consOkR l) := by
        show _ = _
        unfold pairsR
        have : ps.all (pairR l) = true := by
          rw [List.all_eq_true]
          intro x hx
          obtain ⟨j, hj, rfl⟩ := List.mem_iff_getElem.1 hx
          have h1 := HT.out j (by have := HN.out; omega)
          rwa [List.getD_eq_getElem?_getD, List.getElem?_eq_getElem hj, Option.getD_some] at h1
        rw [this, Bool.and_true]
      go_wp2_with fail
      refine (specConsOk_any wr B (some ⟨b0, o0, none⟩) n c l (by omega) (HL.out.below (HB.out.mono hB)) hn).mono ?_
      rintro e w2 ⟨rfl, hb2⟩
      have HB2 := Lib.hid (HB.out.trans (hb2.mono hszr))
      rw [← HE.out]
      obtain ⟨R, hR⟩ : ∃ R, pairsR l ps = R := ⟨_, rfl⟩
      have HR := Lib.hid hR
      rw [hR]
      clear hb2 hR
      go_wp2
      go_ret
      exact ⟨by rw [HR.out]; rfl, HB2.out⟩
end Go.Proofs.YtgebjnoicgmdoaaGreatDoor

namespace Go.Proofs.YtgebjnoicgmdoaaGreatDoor
open Go.RowKit
open Cs (Cn)

set_option maxHeartbeats 400000 in
theorem szConS_any (A : Option Addr) (n c : Nat) (left : Int) (w : World) (h0 : 0 ≤ left) (h1 : left ≤ 1048576) (hn : (n : Int) ≤ 9223372036854775807) :
    Calls Tryz.prog 32 #[.slice A n c, .int .i64 left] w fun e w' => e = .returned (.int .i64 (if left < n then -1 else left - n)) ∧ w = w' := by
  go_enter Tryz.func32, Tryz.ntmps32
  go_wp2
  all_goals go_ret
  · exact ⟨rfl, rfl⟩
  · exact ⟨rfl, rfl⟩

set_option maxHeartbeats 400000 in
theorem toCon_any (U R V : Int) (w : World) :
    Calls Tryz.prog 76 #[.agg #[.int .i64 U, .int .i64 R, .int .i64 V]] w fun e w' => e = .returned (.agg #[.int .i64 U, .int .i64 R, .int .i64 V]) ∧ Below w.heap.size w w' := by
  go_enter Tryz.func76, Tryz.ntmps76
  go_wp2
  exact bodyPost_ret (v := .agg #[.int .i64 U, .int .i64 R, .int .i64 V]) (by simp [results, Tryz.results76, go_sem]) rfl ⟨rfl, (((Below.refl _ _).alloc (Nat.le_refl _) _).alloc (by simp) _).alloc (by simp; omega) _⟩

/-- block g is a row of just n constraints, those of l -/
def ConOwn (w : World) (g n : Nat) (l : List Cn) : Prop :=
  l.length = n ∧ ∃ cs, Blk w g 41 cs ∧ cs.size = n * 3 ∧ ∀ k, k < n → cs[k * 3]? = some (.int .i64 (l.getD k (0, 0, 0)).1) ∧ cs[k * 3 + 1]? = some (.int .i64 (l.getD k (0, 0, 0)).2.1) ∧ cs[k * 3 + 2]? = some (.int .i64 (l.getD k (0, 0, 0)).2.2)
theorem ConOwn.lt {w : World} {g n : Nat} {l : List Cn} (h : ConOwn w g n l) : g + 1 ≤ w.heap.size := by obtain ⟨_, cs, hblk, _⟩ := h; exact hblk.lt
theorem ConOwn.reads {w : World} {g n : Nat} {l : List Cn} (h : ConOwn w g n l) : ConR w (g + 1) (some ⟨g, 0, none⟩) n l := by
  obtain ⟨hl, cs, hb, hs, hc⟩ := h
  refine ⟨hl, fun _ => ⟨g, 0, rfl, by omega, fun k hk => ?_⟩⟩
  rw [hb.cell, hb.cell, hb.cell, Nat.zero_add]
  exact hc k hk
theorem ConOwn.below {w w' : World} {g n B : Nat} {l : List Cn} (h : ConOwn w g n l) (hb : Below B w w') (hg : g < B) : ConOwn w' g n l := by
  obtain ⟨hl, cs, hblk, rest⟩ := h
  exact ⟨hl, cs, hblk.below hb hg, rest⟩
/-- the row of constraints that is being filled: the first k of them are there -/
def FillC (w : World) (g n k : Nat) (l : List Cn) (wr : World) : Prop :=
  Below w.heap.size w wr ∧ ∃ cs, Blk wr g 41 cs ∧ cs.size = n * 3 ∧ ∀ j, j < k → cs[j * 3]? = some (.int .i64 (l.getD j (0, 0, 0)).1) ∧ cs[j * 3 + 1]? = some (.int .i64 (l.getD j (0, 0, 0)).2.1) ∧ cs[j * 3 + 2]? = some (.int .i64 (l.getD j (0, 0, 0)).2.2)
theorem fillC_step {w wr w1 : World} {n k : Nat} {l : List Cn} {a b d : Int} (h : FillC w w.heap.size n k l wr) (hb : Below wr.heap.size wr w1) (hk : k < n) (ht : l.getD k (0, 0, 0) = (a, b, d)) :
    FillC w w.heap.size n (k + 1) l (((w1.setCell ⟨w.heap.size, k * 3, none⟩ (.int .i64 a)).setCell ⟨w.heap.size, k * 3 + 1, none⟩ (.int .i64 b)).setCell ⟨w.heap.size, k * 3 + 2, none⟩ (.int .i64 d)) := by
  obtain ⟨hbel, cs, hblk, hs, hc⟩ := h
  have hblk1 := hblk.below hb hblk.lt
  refine ⟨(((hbel.trans (hb.mono hbel.size)).setCell (p := ⟨w.heap.size, k * 3, none⟩) (Nat.le_refl _) _).setCell (p := ⟨w.heap.size, k * 3 + 1, none⟩) (Nat.le_refl _) _).setCell (p := ⟨w.heap.size, k * 3 + 2, none⟩) (Nat.le_refl _) _, _, ((hblk1.put _ _).put _ _).put _ _, by simp [hs], ?_⟩
  intro j hj
  by_cases e : j = k
  · subst e
    rw [ht]
    refine ⟨?_, ?_, ?_⟩
    · rw [Array.getElem?_setIfInBounds_ne (by omega), Array.getElem?_setIfInBounds_ne (by omega), Array.getElem?_setIfInBounds_self_of_lt (by omega)]
    · rw [Array.getElem?_setIfInBounds_ne (by omega), Array.getElem?_setIfInBounds_self_of_lt (by simp; omega)]
    · rw [Array.getElem?_setIfInBounds_self_of_lt (by simp; omega)]
  · obtain ⟨x, y, z⟩ := hc j (by omega)
    refine ⟨?_, ?_, ?_⟩
    · rw [Array.getElem?_setIfInBounds_ne (by omega), Array.getElem?_setIfInBounds_ne (by omega), Array.getElem?_setIfInBounds_ne (by omega)]; exact x
    · rw [Array.getElem?_setIfInBounds_ne (by omega), Array.getElem?_setIfInBounds_ne (by omega), Array.getElem?_setIfInBounds_ne (by omega)]; exact y
    · rw [Array.getElem?_setIfInBounds_ne (by omega), Array.getElem?_setIfInBounds_ne (by omega), Array.getElem?_setIfInBounds_ne (by omega)]; exact z

set_option maxHeartbeats 800000 in
theorem toConS_any (w : World) (B : Nat) (A : Option Addr) (n c : Nat) (l : List Cn) (hB : B ≤ w.heap.size) (hl : ConR w B A n l) (hn : n ≤ 1048576) :
    Calls Tryz.prog 34 #[.slice A n c] w fun e w' => e = .returned (.slice (some ⟨w.heap.size, 0, none⟩) n n) ∧ Below w.heap.size w w' ∧ ConOwn w' w.heap.size n l := by
  obtain ⟨i0, hi, hz0, hz1, hz2⟩ := info_parts info_con
  have hmk : ∀ wx, (Instr.makeSlice 24 (.int .i64 (n : Int)) (.int .i64 (n : Int))).run Tryz.prog wx = .ok (.slice (some ⟨wx.heap.size, 0, none⟩) n n) (wx.alloc (.cells (madeCells (Value.agg #[.int .i64 0, .int .i64 0, .int .i64 0]).cells (n * 3)) 41)) := by
    intro wx
    have hr := run_make (P := Tryz.prog) wx 24 41 i0 _ Tryz.underlying24 hi hz0 .i64 .i64 n n (by omega) (by omega) (by rw [hz2]; omega) (by omega)
    simp only [Int.toNat_natCast, hz1] at hr
    exact hr
  have hstart : FillC w w.heap.size n 0 l (w.alloc (.cells (madeCells (Value.agg #[.int .i64 0, .int .i64 0, .int .i64 0]).cells (n * 3)) 41)) :=
    ⟨(Below.refl _ _).alloc (Nat.le_refl _) _, _, Blk.made _ _ _, by simp [madeCells], by intro j hj; omega⟩
  have HS := Lib.hid hstart
  clear hstart hi hz0 hz1 hz2
  go_enter Tryz.func34, Tryz.ntmps34
  go_wp2
  go_loopw [4] (fun i wr => ∃ k : Nat, k ≤ n ∧ i = .int .i64 k ∧ FillC w w.heap.size n k l wr) (fun i _ => n - (intOf i).toNat)
  case atStart => exact ⟨0, Nat.zero_le _, rfl, HS.out⟩
  case round =>
    obtain ⟨k, hk, rfl, hF⟩ := hrel
    by_cases hlt : k < n
    · obtain ⟨b, off, rfl, hb, hc⟩ := hl.2 (by omega)
      obtain ⟨c1, c2, c3⟩ := hc k hlt
      obtain ⟨t, ht⟩ : ∃ t, l.getD k (0, 0, 0) = t := ⟨_, rfl⟩
      rw [ht] at c1 c2 c3
      obtain ⟨U, R, V⟩ := t
      have hbel := hF.1
      have k1 := (hbel.cell (p := ⟨b, off + k * 3, none⟩) (by show b < _; omega)).trans c1
      have k2 := (hbel.cell (p := ⟨b, off + k * 3 + 1, none⟩) (by show b < _; omega)).trans c2
      have k3 := (hbel.cell (p := ⟨b, off + k * 3 + 2, none⟩) (by show b < _; omega)).trans c3
      have HT := Lib.hid ht
      have HF := Lib.hid hF
      have hszr := hbel.size
      clear c1 c2 c3 hc ht
      go_wp2_with fail
      refine (toCon_any _ _ _ _).mono ?_
      rintro e w1 ⟨rfl, hb1⟩
      obtain ⟨_, cs, hblk, hs, _⟩ := HF.out
      have hblk1 := hblk.below hb1 hblk.lt
      have hlt1 := hblk1.lt
      have f1 := hblk1.thawed (k * 3)
      have f2 := hblk1.thawed (k * 3 + 1)
      have f3 := hblk1.thawed (k * 3 + 2)
      obtain ⟨v1, e1⟩ : ∃ v1, w1.cell? ⟨w.heap.size, k * 3, none⟩ = some v1 := ⟨_, (hblk1.cell _).trans (Array.getElem?_eq_getElem (by omega))⟩
      obtain ⟨v2, e2⟩ : ∃ v2, w1.cell? ⟨w.heap.size, k * 3 + 1, none⟩ = some v2 := ⟨_, (hblk1.cell _).trans (Array.getElem?_eq_getElem (by omega))⟩
      obtain ⟨v3, e3⟩ : ∃ v3, w1.cell? ⟨w.heap.size, k * 3 + 2, none⟩ = some v3 := ⟨_, (hblk1.cell _).trans (Array.getElem?_eq_getElem (by omega))⟩
      have HN := Lib.hid (fillC_step HF.out hb1 hlt HT.out)
      clear hblk hblk1 hs hF
      go_wp2
      go_roundw
      case rel => exact ⟨k + 1, by omega, by go_num, HN.out⟩
      case measure => simp [intOf]; omega
    · obtain rfl : k = n := by omega
      obtain ⟨hbel, hcs⟩ := hF
      have HC := Lib.hid hcs
      clear hcs
      go_wp2
      go_ret
      exact ⟨rfl, hbel, hl.1, HC.out⟩

set_option maxHeartbeats 800000 in
theorem eqCon_any (a b c p q r : Int) (w : World) :
    Calls Tryz.prog 78 #[.agg #[.int .i64 a, .int .i64 b, .int .i64 c], .agg #[.int .i64 p, .int .i64 q, .int .i64 r]] w fun e w' => e = .returned (.bool (decide ((a, b, c) = (p, q, r)))) ∧ Below w.heap.size w w' := by
  have hb : Below w.heap.size w ((w.alloc (.cells #[.int .i64 a, .int .i64 b, .int .i64 c] 41)).alloc (.cells #[.int .i64 p, .int .i64 q, .int .i64 r] 41)) := ((Below.refl _ _).alloc (Nat.le_refl _) _).alloc (by simp) _
  have HB := Lib.hid hb
  clear hb
  by_cases h1 : a = p
  · subst h1
    by_cases h2 : b = q
    · subst h2
      by_cases h3 : c = r
      · subst h3
        go_enter Tryz.func78, Tryz.ntmps78
        go_wp2
        go_ret
        exact ⟨ret_bool (by simp), HB.out⟩
      · have e3 : (c != r) = true := by simpa using h3
        have HD : Hid (decide ((a, b, c) = (a, b, r)) = false) := by show _ = _; simp [h3]
        clear h3
        go_enter Tryz.func78, Tryz.ntmps78
        go_wp2
        go_ret
        exact ⟨by rw [HD.out]; rfl, HB.out⟩
    · have e2 : (b != q) = true := by simpa using h2
      have HD : Hid (decide ((a, b, c) = (a, q, r)) = false) := by show _ = _; simp [h2]
      clear h2
      go_enter Tryz.func78, Tryz.ntmps78
      go_wp2
      go_ret
      exact ⟨by rw [HD.out]; rfl, HB.out⟩
  · have e1 : (a != p) = true := by simpa using h1
    have HD : Hid (decide ((a, b, c) = (p, q, r)) = false) := by show _ = _; simp [h1]
    clear h1
    go_enter Tryz.func78, Tryz.ntmps78
    go_wp2
    go_ret
    exact ⟨by rw [HD.out]; rfl, HB.out⟩

set_option maxRecDepth 100000 in
set_option maxHeartbeats 1000000 in
theorem eqConS_any (w : World) (B : Nat) (A1 A2 : Option Addr) (n1 n2 c1 c2 : Nat) (l m : List Cn) (hB : B ≤ w.heap.size) (hl : ConR w B A1 n1 l) (hm : ConR w B A2 n2 m)
    (hn1 : (n1 : Int) ≤ 140737488355328) (hn2 : (n2 : Int) ≤ 140737488355328) :
    Calls Tryz.prog 37 #[.slice A1 n1 c1, .slice A2 n2 c2] w fun e w' => e = .returned (.bool (decide (l = m))) ∧ Below w.heap.size w w' := by
  by_cases hne : n1 = n2
  · subst hne
    have en : ((n1 : Int) != (n1 : Int)) = false := by simp
    go_enter Tryz.func37, Tryz.ntmps37
    go_wp2
    go_loopw [5] (fun i wr => ∃ k : Nat, k ≤ n1 ∧ i = .int .i64 k ∧ Agree (0, 0, 0) k l m ∧ Below w.heap.size w wr) (fun i _ => n1 - (intOf i).toNat)
    case atStart => exact ⟨0, Nat.zero_le _, rfl, (fun j hj => absurd hj (by omega)), Below.refl _ _⟩
    case round =>
      obtain ⟨k, hk, rfl, hag, hbel⟩ := hrel
      have HG := Lib.hid hag
      clear hag
      by_cases hlt : k < n1
      · obtain ⟨b, off, rfl, hb, hc⟩ := hl.2 (by omega)
        obtain ⟨x1, x2, x3⟩ := hc k hlt
        obtain ⟨b', off', rfl, hb', hc'⟩ := hm.2 (by omega)
        obtain ⟨y1, y2, y3⟩ := hc' k hlt
        have HL := Lib.hid hl
        have HM := Lib.hid hm
        obtain ⟨t, ht⟩ : ∃ t, l.getD k (0, 0, 0) = t := ⟨_, rfl⟩
        obtain ⟨u, hu⟩ : ∃ u, m.getD k (0, 0, 0) = u := ⟨_, rfl⟩
        rw [ht] at x1 x2 x3
        rw [hu] at y1 y2 y3
        obtain ⟨p, q, r⟩ := t
        obtain ⟨p', q', r'⟩ := u
        have HT := Lib.hid ht
        have HU := Lib.hid hu
        have k1 := (hbel.cell (p := ⟨b, off + k * 3, none⟩) (by show b < _; omega)).trans x1
        have k2 := (hbel.cell (p := ⟨b, off + k * 3 + 1, none⟩) (by show b < _; omega)).trans x2
        have k3 := (hbel.cell (p := ⟨b, off + k * 3 + 2, none⟩) (by show b < _; omega)).trans x3
        have k4 := (hbel.cell (p := ⟨b', off' + k * 3, none⟩) (by show b' < _; omega)).trans y1
        have k5 := (hbel.cell (p := ⟨b', off' + k * 3 + 1, none⟩) (by show b' < _; omega)).trans y2
        have k6 := (hbel.cell (p := ⟨b', off' + k * 3 + 2, none⟩) (by show b' < _; omega)).trans y3
        clear x1 x2 x3 y1 y2 y3 hc hc' ht hu hl hm
        go_wp2_with fail
        refine region_tail 8 (by kernel_rfl) (by kernel_rfl) ?_
        simp only [List.take_succ_cons, List.take_zero, List.drop_succ_cons, List.drop_zero]
        repeat still_step
        refine wpStill_nil ?_
        go_wp2_with fail
        refine (eqCon_any p q r p' q' r' _).mono ?_
        rintro e w1 ⟨rfl, hb1⟩
        have HB := Lib.hid (hbel.drew.trans (hb1.mono hbel.size))
        clear hb1
        by_cases heq : (p, q, r) = (p', q', r')
        · have HA : Hid (Agree (0, 0, 0) (k + 1) l m) := agree_step HG.out (by rw [HT.out, HU.out, heq])
          rw [decide_eq_true heq]
          clear heq
          go_wp2
          go_roundw
          case rel => exact ⟨k + 1, by omega, by go_num, HA.out, HB.out⟩
          case measure => simp [intOf]; omega
        · have HF : Hid (decide (l = m) = false) := by
            show _ = _
            rw [decide_eq_false_iff_not]
            intro h
            apply heq
            rw [← HT.out, ← HU.out, h]
          rw [decide_eq_false heq]
          clear heq
          go_wp2
          go_ret
          exact ⟨by rw [HF.out]; rfl, HB.out⟩
      · obtain rfl : k = n1 := by omega
        have HF : Hid (decide (l = m) = true) := by
          show _ = _
          rw [decide_eq_true_eq]
          exact agree_all hl.1 hm.1 HG.out
        clear hl hm
        go_wp2
        go_ret
        exact ⟨by rw [HF.out]; rfl, hbel⟩
  · have HF : Hid (decide (l = m) = false) := by
      show _ = _
      rw [decide_eq_false_iff_not]
      intro h
      apply hne
      rw [← hl.1, ← hm.1, h]
    have en : ((n1 : Int) != (n2 : Int)) = true := by simp; omega
    clear hl hm hne
    go_enter Tryz.func37, Tryz.ntmps37
    go_wp2
    go_ret
    exact ⟨by rw [HF.out]; rfl, Below.refl _ _⟩
end Go.Proofs.YtgebjnoicgmdoaaGreatDoor
