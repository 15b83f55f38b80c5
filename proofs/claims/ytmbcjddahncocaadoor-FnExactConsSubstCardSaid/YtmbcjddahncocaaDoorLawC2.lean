/- The laws' work on rows of pairs: held. -/
/- ConsSubst, both sides in one form of answer. -/
/- The laws' own helpers on constraints and slices of them: sizes, copies, comparison, marks. -/
/- The laws' marks upon slices of constraints. -/
import Derived.Test.YtmbcjddahncocaaDoorPairS2
import Derived.Test.YtmbcjddahncocaaDoorCSub2
import Derived.Test.YtmbcjddahncocaaDoorCoMem

namespace Go.Proofs.YtmbcjddahncocaaDoor
open Go.RowKit

set_option maxRecDepth 100000 in
set_option maxHeartbeats 3200000 in
theorem heldPairS_any (w : World) (lo hi : Nat) (A : Option Addr) (n c : Nat) (rb rc ln : Nat → Nat) (k : Nat) (h : PairK w lo hi A c n rb rc ln k) (hn : n ≤ 10000) (hl : ∀ i, i < 2 * n → ln i ≤ 24) (hk : k ≤ 10000) :
    Calls Tryd.prog 57 #[.slice A n c, .int .i64 k] w fun e w' => e = .returned (.int .i64 ((pos ln k n : Nat) : Int)) ∧ w = w' := by
  have HL := Lib.hid hl
  have HP := Lib.hid h
  clear hl h
  go_enter Tryd.func57, Tryd.ntmps57
  go_wp2
  go_loop [1, 5] (fun m i => ∃ j : Nat, j ≤ n ∧ i = .int .i64 j ∧ m = .int .i64 ((pos ln k j : Nat) : Int)) (fun _ i => n - (intOf i).toNat)
  case atStart => exact ⟨0, Nat.zero_le _, rfl, rfl⟩
  case round =>
    obtain ⟨j, hj, rfl, rfl⟩ := hrel
    by_cases hlt : j < n
    · obtain ⟨g, rfl⟩ := HP.out.form (by omega)
      obtain ⟨a0, a1, a2, _⟩ := HP.out.spots hlt
      have hla := HL.out (2 * j) (by omega)
      have hlb := HL.out (2 * j + 1) (by omega)
      have hpj := pos_le ln k (n := j) fun i hi' => HL.out i (by omega)
      have hps : pos ln k (j + 1) = pos ln k j + ln (2 * j) * 2 + 1 + ln (2 * j + 1) * 2 := rfl
      have hmf : mf ln k j = decide ((pos ln k j + ln (2 * j) * 2) % 3 = 0) := rfl
      have hma := mk_a ln k j
      have hmb := mk_b ln k j
      have hR : w.ownsRow lo 48 2 (.slice (some ⟨rb (2 * j), 0, none⟩) (ln (2 * j)) (rc (2 * j))) (ln (2 * j)) (marks (mk ln k (2 * j)) (ln (2 * j) * 2)) := HP.out.row (2 * j) (by omega)
      have hR2 : w.ownsRow lo 48 2 (.slice (some ⟨rb (2 * j + 1), 0, none⟩) (ln (2 * j + 1)) (rc (2 * j + 1))) (ln (2 * j + 1)) (marks (mk ln k (2 * j + 1)) (ln (2 * j + 1) * 2)) := HP.out.row (2 * j + 1) (by omega)
      rw [hma] at hR
      rw [hmb] at hR2
      obtain ⟨na, hna⟩ : ∃ t, ln (2 * j) = t := ⟨_, rfl⟩
      obtain ⟨nb, hnb⟩ : ∃ t, ln (2 * j + 1) = t := ⟨_, rfl⟩
      obtain ⟨p, hp⟩ : ∃ t, pos ln k j = t := ⟨_, rfl⟩
      rw [hp] at hpj hps hmf hR hR2
      rw [hna] at a0 hla hps hmf hR hR2
      rw [hnb] at a2 hlb hps hR2
      have hbm : (((p : Int) + (na : Int) * 2) % 3 == 0) = mf ln k j := by
        rw [hmf]
        by_cases h3 : (p + na * 2) % 3 = 0
        · rw [decide_eq_true h3, beq_iff_eq]; omega
        · rw [decide_eq_false h3, beq_eq_false_iff_ne]; omega
      have HBM := Lib.hid hbm
      have HR := Lib.hid hR
      have HR2 := Lib.hid hR2
      have HPS := Lib.hid hps
      have hp3 : p ≤ 3000000 := by omega
      rw [hp]
      clear hR hR2 hna hnb hma hmb hmf hps hp hbm
      generalize hq : mf ln k j = fb at a1 HBM ⊢
      clear hq
      have hx : (!fb == (((p : Int) + (na : Int) * 2) % 3 == 0)) = false := by rw [HBM.out]; cases fb <;> rfl
      go_wp2_with fail
      refine (heldTokS_any w lo _ na _ p HR.out (by omega) hp3).mono ?_
      rintro e w1 ⟨rfl, rfl⟩
      have e4 : (p : Int) + (na : Int) * 2 + 1 = ((p + na * 2 + 1 : Nat) : Int) := by omega
      have HE4 := Lib.hid e4
      clear e4
      go_wp2_with fail
      rw [HE4.out]
      refine (heldTokS_any w lo _ nb _ (p + na * 2 + 1) HR2.out (by omega) (by omega)).mono ?_
      rintro e w2 ⟨rfl, rfl⟩
      clear hx HBM
      go_wp2
      go_round
      case rel => exact ⟨j + 1, by omega, by go_num, by rw [HPS.out]; go_num⟩
      case measure => simp [intOf]; omega
    · obtain rfl : j = n := by omega
      go_wp2
      go_ret
      exact ⟨rfl, rfl⟩
end Go.Proofs.YtmbcjddahncocaaDoor

namespace Go.Proofs.YtmbcjddahncocaaDoor
open Go.RowKit
open Cs (Cn)

/-- what ConsSubst gives back: ps, of which there are m, each row of tokens a level -/
def CsbW (w : World) (ps : List Pr) (m : Nat) (ok : Bool) (e : Ending) (w' : World) : Prop :=
  ∃ A cap rb rc, e = .returned (.tuple #[.slice A m cap, .bool ok]) ∧ PairP w' w.heap.size w'.heap.size A cap m ps rb rc ∧ Below w.heap.size w w'
theorem csbW_of {w w' : World} {R : Option (List Pr)} {ps : List Pr} {m : Nat} {ok : Bool} {e : Ending} (h : CsbOut w R e w') (hps : R.getD [] = ps) (hm : ps.length = m) (hok : R.isSome = ok) : CsbW w ps m ok e w' := by
  rcases h with ⟨rfl, rfl, hb⟩ | ⟨qs, A, m', cap, rb, rc, rfl, _, rfl, hp, hb⟩
  · subst hps
    subst hok
    subst hm
    exact ⟨none, 0, fun _ => 0, fun _ => 0, rfl, ((PairO.nil w' w.heap.size _ _).words), hb⟩
  · subst hps
    subst hok
    obtain rfl : m' = m := by rw [← hm, ← hp.len]; rfl
    exact ⟨A, cap, rb, rc, rfl, hp.words, hb⟩
theorem sub1_len {ls : List (List (Int × Int))} {t : Cn} {qs : List Pr} (h : sub1 ls t = some qs) : qs.length ≤ 2 ∧ ∀ q ∈ qs, q.1.length ≤ 24 ∧ q.2.2.length ≤ 24 := by
  unfold sub1 at h
  split at h
  · rename_i u v hu hv
    injection h with h
    subst h
    have a := (sdR_ok hu).2.2
    have b := (sdR_ok hv).2.2
    by_cases e : t.2.1 = 2
    · rw [if_pos e]
      refine ⟨Nat.le_refl _, fun q hq => ?_⟩
      rcases List.mem_cons.1 hq with rfl | hq
      · exact ⟨a, b⟩
      · rcases List.mem_cons.1 hq with rfl | hq
        · exact ⟨b, a⟩
        · cases hq
    · rw [if_neg e]
      refine ⟨by simp, fun q hq => ?_⟩
      rcases List.mem_cons.1 hq with rfl | hq
      · exact ⟨a, b⟩
      · cases hq
  · cases h
theorem subTo_len {l : List Cn} {ls : List (List (Int × Int))} : ∀ {k : Nat} {ps : List Pr}, subTo l ls k = some ps → ps.length ≤ 2 * k ∧ ∀ q ∈ ps, q.1.length ≤ 24 ∧ q.2.2.length ≤ 24
  | 0, ps, h => by
    injection h with h
    subst h
    exact ⟨Nat.le_refl _, fun q hq => by cases hq⟩
  | k + 1, ps, h => by
    change (subTo l ls k).bind _ = _ at h
    cases h1 : subTo l ls k with
    | none => rw [h1] at h; cases h
    | some qs =>
      rw [h1] at h
      change (sub1 ls (l.getD k (0, 0, 0))).map _ = _ at h
      cases h2 : sub1 ls (l.getD k (0, 0, 0)) with
      | none => rw [h2] at h; cases h
      | some rs =>
        rw [h2] at h
        injection h with h
        subst h
        have a := subTo_len h1
        have b := sub1_len h2
        refine ⟨by rw [List.length_append]; omega, fun q hq => ?_⟩
        rcases List.mem_append.1 hq with hq | hq
        · exact a.2 q hq
        · exact b.2 q hq
theorem csub_len (l : List Cn) (ls : List (List (Int × Int))) : ((csubR l ls).getD []).length ≤ 48 ∧ ∀ i, i < 2 * ((csubR l ls).getD []).length → (toks ((csubR l ls).getD []) i).length ≤ 24 := by
  cases h : csubR l ls with
  | none => exact ⟨by decide, fun i hi => absurd hi (by simp)⟩
  | some ps =>
    show ps.length ≤ 48 ∧ ∀ i, i < 2 * ps.length → (toks ps i).length ≤ 24
    unfold csubR at h
    split at h
    · rename_i hc
      have a := subTo_len h
      have b := (consOkR_ok hc).2
      refine ⟨by omega, fun i hi => ?_⟩
      have hm : ps.getD (i / 2) pr0 ∈ ps := by
        rw [List.getD_eq_getElem?_getD, List.getElem?_eq_getElem (by omega), Option.getD_some]
        exact List.getElem_mem _
      unfold toks
      split
      · exact (a.2 _ hm).1
      · exact (a.2 _ hm).2
    · cases h
end Go.Proofs.YtmbcjddahncocaaDoor

namespace Go.Proofs.YtmbcjddahncocaaDoor
open Go.RowKit
open Cs (Cn)

set_option maxHeartbeats 400000 in
theorem szConS_any (A : Option Addr) (n c : Nat) (left : Int) (w : World) (h0 : 0 ≤ left) (h1 : left ≤ 1048576) (hn : (n : Int) ≤ 9223372036854775807) :
    Calls Tryd.prog 43 #[.slice A n c, .int .i64 left] w fun e w' => e = .returned (.int .i64 (if left < n then -1 else left - n)) ∧ w = w' := by
  go_enter Tryd.func43, Tryd.ntmps43
  go_wp2
  all_goals go_ret
  · exact ⟨rfl, rfl⟩
  · exact ⟨rfl, rfl⟩

set_option maxHeartbeats 400000 in
theorem toCon_any (U R V : Int) (w : World) :
    Calls Tryd.prog 103 #[.agg #[.int .i64 U, .int .i64 R, .int .i64 V]] w fun e w' => e = .returned (.agg #[.int .i64 U, .int .i64 R, .int .i64 V]) ∧ Below w.heap.size w w' := by
  go_enter Tryd.func103, Tryd.ntmps103
  go_wp2
  exact bodyPost_ret (v := .agg #[.int .i64 U, .int .i64 R, .int .i64 V]) (by simp [results, Tryd.results103, go_sem]) rfl ⟨rfl, (((Below.refl _ _).alloc (Nat.le_refl _) _).alloc (by simp) _).alloc (by simp; omega) _⟩

/-- block g is a row of just n constraints, those of l -/
def ConOwn (w : World) (g n : Nat) (l : List Cn) : Prop :=
  l.length = n ∧ ∃ cs, Blk w g 39 cs ∧ cs.size = n * 3 ∧ ∀ k, k < n → cs[k * 3]? = some (.int .i64 (l.getD k (0, 0, 0)).1) ∧ cs[k * 3 + 1]? = some (.int .i64 (l.getD k (0, 0, 0)).2.1) ∧ cs[k * 3 + 2]? = some (.int .i64 (l.getD k (0, 0, 0)).2.2)
theorem ConOwn.lt {w : World} {g n : Nat} {l : List Cn} (h : ConOwn w g n l) : g + 1 ≤ w.heap.size := by obtain ⟨_, cs, hblk, _⟩ := h; exact hblk.lt
theorem ConOwn.reads {w : World} {g n : Nat} {l : List Cn} (h : ConOwn w g n l) : ConR w (g + 1) (some ⟨g, 0, none⟩) n l := by
  obtain ⟨hl, cs, hb, hs, hc⟩ := h
  refine ⟨hl, fun _ => ⟨g, 0, rfl, by omega, fun k hk => ?_⟩⟩
  rw [hb.cell, hb.cell, hb.cell, Nat.zero_add]
  exact hc k hk
theorem ConOwn.below {w w' : World} {g n B : Nat} {l : List Cn} (h : ConOwn w g n l) (hb : Below B w w') (hg : g < B) : ConOwn w' g n l := by
  obtain ⟨hl, cs, hblk, rest⟩ := h
  exact ⟨hl, cs, hblk.below hb hg, rest⟩
theorem ConOwn.owns {w : World} {g n : Nat} {l : List Cn} (h : ConOwn w g n l) (hn : n ≤ 1048576) : OwnC w g (some ⟨g, 0, none⟩) n n l := by
  obtain ⟨hl, cs, hblk, hs, hc⟩ := h
  refine ⟨by rw [conCells_len, hl], .inr ⟨g, n, cs, rfl, Nat.le_refl _, hblk, Nat.le_refl _, by unfold maxLen; omega, hs, ?_⟩⟩
  rw [← hs, List.take_of_length_le (by simp)]
  apply List.ext_getElem?
  intro i
  by_cases hi : i < n * 3
  · obtain ⟨k, hk⟩ : ∃ k, i = k * 3 ∨ i = k * 3 + 1 ∨ i = k * 3 + 2 := ⟨i / 3, by omega⟩
    have h1 := conCells_at l k (by omega)
    have h2 := hc k (by omega)
    rcases hk with rfl | rfl | rfl
    · rw [h1.1, Array.getElem?_toList]; exact h2.1
    · rw [h1.2.1, Array.getElem?_toList]; exact h2.2.1
    · rw [h1.2.2, Array.getElem?_toList]; exact h2.2.2
  · rw [List.getElem?_eq_none (by simp; omega), List.getElem?_eq_none (by rw [conCells_len]; omega)]

/-- the row of constraints that is being filled: the first k of them are there -/
def FillC (w : World) (g n k : Nat) (l : List Cn) (wr : World) : Prop :=
  Below w.heap.size w wr ∧ ∃ cs, Blk wr g 39 cs ∧ cs.size = n * 3 ∧ ∀ j, j < k → cs[j * 3]? = some (.int .i64 (l.getD j (0, 0, 0)).1) ∧ cs[j * 3 + 1]? = some (.int .i64 (l.getD j (0, 0, 0)).2.1) ∧ cs[j * 3 + 2]? = some (.int .i64 (l.getD j (0, 0, 0)).2.2)
theorem fillC_step {w wr w1 : World} {n k : Nat} {l : List Cn} {a b d : Int} (h : FillC w w.heap.size n k l wr) (hb : Below wr.heap.size wr w1) (hk : k < n) (ht : l.getD k (0, 0, 0) = (a, b, d)) :
    FillC w w.heap.size n (k + 1) l (((w1.setCell ⟨w.heap.size, k * 3, none⟩ (.int .i64 a)).setCell ⟨w.heap.size, k * 3 + 1, none⟩ (.int .i64 b)).setCell ⟨w.heap.size, k * 3 + 2, none⟩ (.int .i64 d)) := by
  obtain ⟨hbel, cs, hblk, hs, hc⟩ := h
  have hblk1 := hblk.below hb hblk.lt
  refine ⟨(((hbel.trans (hb.mono hbel.size)).setCell (p := ⟨w.heap.size, k * 3, none⟩) (Nat.le_refl _) _).setCell (p := ⟨w.heap.size, k * 3 + 1, none⟩) (Nat.le_refl _) _).setCell (p := ⟨w.heap.size, k * 3 + 2, none⟩) (Nat.le_refl _) _, _, ((hblk1.put _ _).put _ _).put _ _, by simp [hs], ?_⟩
  intro j hj
  by_cases e : j = k
  · subst e
    rw [ht]
    refine ⟨?_, ?_, ?_⟩
    · rw [Array.getElem?_setIfInBounds_ne (by omega), Array.getElem?_setIfInBounds_ne (by omega), Array.getElem?_setIfInBounds_self_of_lt (by omega)]
    · rw [Array.getElem?_setIfInBounds_ne (by omega), Array.getElem?_setIfInBounds_self_of_lt (by simp; omega)]
    · rw [Array.getElem?_setIfInBounds_self_of_lt (by simp; omega)]
  · obtain ⟨x, y, z⟩ := hc j (by omega)
    refine ⟨?_, ?_, ?_⟩
    · rw [Array.getElem?_setIfInBounds_ne (by omega), Array.getElem?_setIfInBounds_ne (by omega), Array.getElem?_setIfInBounds_ne (by omega)]; exact x
    · rw [Array.getElem?_setIfInBounds_ne (by omega), Array.getElem?_setIfInBounds_ne (by omega), Array.getElem?_setIfInBounds_ne (by omega)]; exact y
    · rw [Array.getElem?_setIfInBounds_ne (by omega), Array.getElem?_setIfInBounds_ne (by omega), Array.getElem?_setIfInBounds_ne (by omega)]; exact z

set_option maxHeartbeats 800000 in
theorem toConS_any (w : World) (B : Nat) (A : Option Addr) (n c : Nat) (l : List Cn) (hB : B ≤ w.heap.size) (hl : ConR w B A n l) (hn : n ≤ 1048576) :
    Calls Tryd.prog 45 #[.slice A n c] w fun e w' => e = .returned (.slice (some ⟨w.heap.size, 0, none⟩) n n) ∧ Below w.heap.size w w' ∧ ConOwn w' w.heap.size n l := by
  obtain ⟨i0, hi, hz0, hz1, hz2⟩ := info_parts info_con
  have hmk : ∀ wx, (Instr.makeSlice 37 (.int .i64 (n : Int)) (.int .i64 (n : Int))).run Tryd.prog wx = .ok (.slice (some ⟨wx.heap.size, 0, none⟩) n n) (wx.alloc (.cells (madeCells (Value.agg #[.int .i64 0, .int .i64 0, .int .i64 0]).cells (n * 3)) 39)) := by
    intro wx
    have hr := run_make (P := Tryd.prog) wx 37 39 i0 _ Tryd.underlying37 hi hz0 .i64 .i64 n n (by omega) (by omega) (by rw [hz2]; omega) (by omega)
    simp only [Int.toNat_natCast, hz1] at hr
    exact hr
  have hstart : FillC w w.heap.size n 0 l (w.alloc (.cells (madeCells (Value.agg #[.int .i64 0, .int .i64 0, .int .i64 0]).cells (n * 3)) 39)) :=
    ⟨(Below.refl _ _).alloc (Nat.le_refl _) _, _, Blk.made _ _ _, by simp [madeCells], by intro j hj; omega⟩
  have HS := Lib.hid hstart
  clear hstart hi hz0 hz1 hz2
  go_enter Tryd.func45, Tryd.ntmps45
  go_wp2
  go_loopw [4] (fun i wr => ∃ k : Nat, k ≤ n ∧ i = .int .i64 k ∧ FillC w w.heap.size n k l wr) (fun i _ => n - (intOf i).toNat)
  case atStart => exact ⟨0, Nat.zero_le _, rfl, HS.out⟩
  case round =>
    obtain ⟨k, hk, rfl, hF⟩ := hrel
    by_cases hlt : k < n
    · obtain ⟨b, off, rfl, hb, hc⟩ := hl.2 (by omega)
      obtain ⟨c1, c2, c3⟩ := hc k hlt
      obtain ⟨t, ht⟩ : ∃ t, l.getD k (0, 0, 0) = t := ⟨_, rfl⟩
      rw [ht] at c1 c2 c3
      obtain ⟨U, R, V⟩ := t
      have hbel := hF.1
      have k1 := (hbel.cell (p := ⟨b, off + k * 3, none⟩) (by show b < _; omega)).trans c1
      have k2 := (hbel.cell (p := ⟨b, off + k * 3 + 1, none⟩) (by show b < _; omega)).trans c2
      have k3 := (hbel.cell (p := ⟨b, off + k * 3 + 2, none⟩) (by show b < _; omega)).trans c3
      have HT := Lib.hid ht
      have HF := Lib.hid hF
      have hszr := hbel.size
      clear c1 c2 c3 hc ht
      go_wp2_with fail
      refine (toCon_any _ _ _ _).mono ?_
      rintro e w1 ⟨rfl, hb1⟩
      obtain ⟨_, cs, hblk, hs, _⟩ := HF.out
      have hblk1 := hblk.below hb1 hblk.lt
      have hlt1 := hblk1.lt
      have f1 := hblk1.thawed (k * 3)
      have f2 := hblk1.thawed (k * 3 + 1)
      have f3 := hblk1.thawed (k * 3 + 2)
      obtain ⟨v1, e1⟩ : ∃ v1, w1.cell? ⟨w.heap.size, k * 3, none⟩ = some v1 := ⟨_, (hblk1.cell _).trans (Array.getElem?_eq_getElem (by omega))⟩
      obtain ⟨v2, e2⟩ : ∃ v2, w1.cell? ⟨w.heap.size, k * 3 + 1, none⟩ = some v2 := ⟨_, (hblk1.cell _).trans (Array.getElem?_eq_getElem (by omega))⟩
      obtain ⟨v3, e3⟩ : ∃ v3, w1.cell? ⟨w.heap.size, k * 3 + 2, none⟩ = some v3 := ⟨_, (hblk1.cell _).trans (Array.getElem?_eq_getElem (by omega))⟩
      have HN := Lib.hid (fillC_step HF.out hb1 hlt HT.out)
      clear hblk hblk1 hs hF
      go_wp2
      go_roundw
      case rel => exact ⟨k + 1, by omega, by go_num, HN.out⟩
      case measure => simp [intOf]; omega
    · obtain rfl : k = n := by omega
      obtain ⟨hbel, hcs⟩ := hF
      have HC := Lib.hid hcs
      clear hcs
      go_wp2
      go_ret
      exact ⟨rfl, hbel, hl.1, HC.out⟩

set_option maxHeartbeats 800000 in
theorem eqCon_any (a b c p q r : Int) (w : World) :
    Calls Tryd.prog 105 #[.agg #[.int .i64 a, .int .i64 b, .int .i64 c], .agg #[.int .i64 p, .int .i64 q, .int .i64 r]] w fun e w' => e = .returned (.bool (decide ((a, b, c) = (p, q, r)))) ∧ Below w.heap.size w w' := by
  have hb : Below w.heap.size w ((w.alloc (.cells #[.int .i64 a, .int .i64 b, .int .i64 c] 39)).alloc (.cells #[.int .i64 p, .int .i64 q, .int .i64 r] 39)) := ((Below.refl _ _).alloc (Nat.le_refl _) _).alloc (by simp) _
  have HB := Lib.hid hb
  clear hb
  by_cases h1 : a = p
  · subst h1
    by_cases h2 : b = q
    · subst h2
      by_cases h3 : c = r
      · subst h3
        go_enter Tryd.func105, Tryd.ntmps105
        go_wp2
        go_ret
        exact ⟨ret_bool (by simp), HB.out⟩
      · have e3 : (c != r) = true := by simpa using h3
        have HD : Hid (decide ((a, b, c) = (a, b, r)) = false) := by show _ = _; simp [h3]
        clear h3
        go_enter Tryd.func105, Tryd.ntmps105
        go_wp2
        go_ret
        exact ⟨by rw [HD.out]; rfl, HB.out⟩
    · have e2 : (b != q) = true := by simpa using h2
      have HD : Hid (decide ((a, b, c) = (a, q, r)) = false) := by show _ = _; simp [h2]
      clear h2
      go_enter Tryd.func105, Tryd.ntmps105
      go_wp2
      go_ret
      exact ⟨by rw [HD.out]; rfl, HB.out⟩
  · have e1 : (a != p) = true := by simpa using h1
    have HD : Hid (decide ((a, b, c) = (p, q, r)) = false) := by show _ = _; simp [h1]
    clear h1
    go_enter Tryd.func105, Tryd.ntmps105
    go_wp2
    go_ret
    exact ⟨by rw [HD.out]; rfl, HB.out⟩

set_option maxRecDepth 100000 in
set_option maxHeartbeats 1000000 in
theorem eqConS_any (w : World) (B : Nat) (A1 A2 : Option Addr) (n1 n2 c1 c2 : Nat) (l m : List Cn) (hB : B ≤ w.heap.size) (hl : ConR w B A1 n1 l) (hm : ConR w B A2 n2 m)
    (hn1 : (n1 : Int) ≤ 140737488355328) (hn2 : (n2 : Int) ≤ 140737488355328) :
    Calls Tryd.prog 47 #[.slice A1 n1 c1, .slice A2 n2 c2] w fun e w' => e = .returned (.bool (decide (l = m))) ∧ Below w.heap.size w w' := by
  by_cases hne : n1 = n2
  · subst hne
    have en : ((n1 : Int) != (n1 : Int)) = false := by simp
    go_enter Tryd.func47, Tryd.ntmps47
    go_wp2
    go_loopw [5] (fun i wr => ∃ k : Nat, k ≤ n1 ∧ i = .int .i64 k ∧ Agree (0, 0, 0) k l m ∧ Below w.heap.size w wr) (fun i _ => n1 - (intOf i).toNat)
    case atStart => exact ⟨0, Nat.zero_le _, rfl, (fun j hj => absurd hj (by omega)), Below.refl _ _⟩
    case round =>
      obtain ⟨k, hk, rfl, hag, hbel⟩ := hrel
      have HG := Lib.hid hag
      clear hag
      by_cases hlt : k < n1
      · obtain ⟨b, off, rfl, hb, hc⟩ := hl.2 (by omega)
        obtain ⟨x1, x2, x3⟩ := hc k hlt
        obtain ⟨b', off', rfl, hb', hc'⟩ := hm.2 (by omega)
        obtain ⟨y1, y2, y3⟩ := hc' k hlt
        have HL := Lib.hid hl
        have HM := Lib.hid hm
        obtain ⟨t, ht⟩ : ∃ t, l.getD k (0, 0, 0) = t := ⟨_, rfl⟩
        obtain ⟨u, hu⟩ : ∃ u, m.getD k (0, 0, 0) = u := ⟨_, rfl⟩
        rw [ht] at x1 x2 x3
        rw [hu] at y1 y2 y3
        obtain ⟨p, q, r⟩ := t
        obtain ⟨p', q', r'⟩ := u
        have HT := Lib.hid ht
        have HU := Lib.hid hu
        have k1 := (hbel.cell (p := ⟨b, off + k * 3, none⟩) (by show b < _; omega)).trans x1
        have k2 := (hbel.cell (p := ⟨b, off + k * 3 + 1, none⟩) (by show b < _; omega)).trans x2
        have k3 := (hbel.cell (p := ⟨b, off + k * 3 + 2, none⟩) (by show b < _; omega)).trans x3
        have k4 := (hbel.cell (p := ⟨b', off' + k * 3, none⟩) (by show b' < _; omega)).trans y1
        have k5 := (hbel.cell (p := ⟨b', off' + k * 3 + 1, none⟩) (by show b' < _; omega)).trans y2
        have k6 := (hbel.cell (p := ⟨b', off' + k * 3 + 2, none⟩) (by show b' < _; omega)).trans y3
        clear x1 x2 x3 y1 y2 y3 hc hc' ht hu hl hm
        go_wp2_with fail
        refine region_tail 8 (by kernel_rfl) (by kernel_rfl) ?_
        simp only [List.take_succ_cons, List.take_zero, List.drop_succ_cons, List.drop_zero]
        repeat still_step
        refine wpStill_nil ?_
        go_wp2_with fail
        refine (eqCon_any p q r p' q' r' _).mono ?_
        rintro e w1 ⟨rfl, hb1⟩
        have HB := Lib.hid (hbel.drew.trans (hb1.mono hbel.size))
        clear hb1
        by_cases heq : (p, q, r) = (p', q', r')
        · have HA : Hid (Agree (0, 0, 0) (k + 1) l m) := agree_step HG.out (by rw [HT.out, HU.out, heq])
          rw [decide_eq_true heq]
          clear heq
          go_wp2
          go_roundw
          case rel => exact ⟨k + 1, by omega, by go_num, HA.out, HB.out⟩
          case measure => simp [intOf]; omega
        · have HF : Hid (decide (l = m) = false) := by
            show _ = _
            rw [decide_eq_false_iff_not]
            intro h
            apply heq
            rw [← HT.out, ← HU.out, h]
          rw [decide_eq_false heq]
          clear heq
          go_wp2
          go_ret
          exact ⟨by rw [HF.out]; rfl, HB.out⟩
      · obtain rfl : k = n1 := by omega
        have HF : Hid (decide (l = m) = true) := by
          show _ = _
          rw [decide_eq_true_eq]
          exact agree_all hl.1 hm.1 HG.out
        clear hl hm
        go_wp2
        go_ret
        exact ⟨by rw [HF.out]; rfl, hbel⟩
  · have HF : Hid (decide (l = m) = false) := by
      show _ = _
      rw [decide_eq_false_iff_not]
      intro h
      apply hne
      rw [← hl.1, ← hm.1, h]
    have en : ((n1 : Int) != (n2 : Int)) = true := by simp; omega
    clear hl hm hne
    go_enter Tryd.func47, Tryd.ntmps47
    go_wp2
    go_ret
    exact ⟨by rw [HF.out]; rfl, Below.refl _ _⟩
end Go.Proofs.YtmbcjddahncocaaDoor

namespace Go.Proofs.YtmbcjddahncocaaDoor
open Go.RowKit
open Cs (Cn)

set_option maxHeartbeats 800000 in
theorem markConS_any (w : World) (base : Nat) (A : Option Addr) (n c : Nat) (xs : List Value) (hown : w.ownsRow base 39 3 (.slice A n c) n xs) (k : Nat) (hn : n ≤ 3000000) (hk : k ≤ 3000000) :
    Calls Tryd.prog 54 #[.slice A n c, .int .i64 k] w fun e w' => e = .returned (.int .i64 ((k + n * 3 : Nat) : Int)) ∧ MarkOut w base 39 3 (.slice A n c) n k w' := by
  by_cases h0 : n = 0
  · subst h0
    have HO := Lib.hid (own_empty hown k)
    clear hown
    go_enter Tryd.func54, Tryd.ntmps54
    go_wp2
    go_loop [1, 5] (fun m i => m = .int .i64 k ∧ i = .int .i64 0) (fun _ _ => 0)
    case atStart => exact ⟨rfl, rfl⟩
    case round =>
      obtain ⟨rfl, rfl⟩ := hrel
      go_wp2
      go_ret
      exact ⟨rfl, World.grownBy.refl _ _, rfl, HO.out⟩
  · rcases hown.2 with ⟨_, h⟩ | ⟨g, cap, cur, hv, hb, hgg, h1, h2, h3, h4⟩
    · omega
    · injection hv with e1 e2 e3
      subst e1; subst e3
      have hblk : Blk w g 39 cur := hgg
      have HS : Hid (Marking w g 39 (c * 3) k 0 w) := ⟨World.grownBy.refl _ _, rfl, cur, hblk, h3, by intro i hi; omega⟩
      have HW := Lib.hid hown
      clear hgg hblk h3 h4 hown
      go_enter Tryd.func54, Tryd.ntmps54
      go_wp2
      go_loopw [1, 5] (fun m i wr => ∃ j : Nat, j ≤ n ∧ i = .int .i64 j ∧ m = .int .i64 ((k + j * 3 : Nat) : Int) ∧ Marking w g 39 (c * 3) k (j * 3) wr) (fun _ i _ => n - (intOf i).toNat)
      case atStart => exact ⟨0, Nat.zero_le _, rfl, rfl, HS.out⟩
      case round =>
        obtain ⟨j, hj, rfl, rfl, hM⟩ := hrel
        by_cases hlt : j < n
        · have hM1 := marking_step hM (by omega)
          have hM2 := marking_step hM1 (by omega)
          have HN := Lib.hid (marking_step hM2 (by omega))
          obtain ⟨_, _, cs, hblk, hs, _⟩ := hM
          have f1 := hblk.thawed (j * 3)
          have f2 := hblk.thawed (j * 3 + 1)
          have f3 := hblk.thawed (j * 3 + 2)
          obtain ⟨v1, d1⟩ : ∃ v1, wr.cell? ⟨g, j * 3, none⟩ = some v1 := ⟨_, (hblk.cell _).trans (Array.getElem?_eq_getElem (by omega))⟩
          obtain ⟨v2, d2⟩ : ∃ v2, wr.cell? ⟨g, j * 3 + 1, none⟩ = some v2 := ⟨_, (hblk.cell _).trans (Array.getElem?_eq_getElem (by omega))⟩
          obtain ⟨v3, d3⟩ : ∃ v3, wr.cell? ⟨g, j * 3 + 2, none⟩ = some v3 := ⟨_, (hblk.cell _).trans (Array.getElem?_eq_getElem (by omega))⟩
          clear hblk hs hM1 hM2
          go_wp2
          go_roundw
          case rel => exact ⟨j + 1, by omega, by go_num, by go_num, by
            have h := HN.out
            rw [show (j + 1) * 3 = j * 3 + 1 + 1 + 1 by omega]
            simpa [Nat.add_assoc, Int.add_assoc] using h⟩
          case measure => simp [intOf]; omega
        · obtain rfl : j = n := by omega
          have HM := Lib.hid hM
          clear hM
          go_wp2
          go_ret
          have hM := HM.out
          exact ⟨rfl, hM.1, hM.2.1, marked (size := 3) HW.out hM⟩

theorem ConOwn.mark {w w' : World} {g n base m k size : Nat} {e : TypeId} {v : Value} {l : List Cn} {lo hi : Nat} (h : ConOwn w g n l) (hm : MarkOut w base e size v m k w') (hv : InR v lo hi) (hd : g < lo ∨ hi ≤ g) : ConOwn w' g n l := by
  obtain ⟨hl, cs, hblk, rest⟩ := h
  refine ⟨hl, cs, ?_, rest⟩
  exact (hm.1.block g hblk.lt (fun he => by have := hv g he.symm; omega)).trans hblk
end Go.Proofs.YtmbcjddahncocaaDoor
