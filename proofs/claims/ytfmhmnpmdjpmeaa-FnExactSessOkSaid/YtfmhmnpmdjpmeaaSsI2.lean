/- The program's scopes: what is live there, whether a frame may stand on it. -/
/- The program: whether a frame may stand on the scopes below it. -/
import Derived.Test.YtfmhmnpmdjpmeaaCsMath6
import Derived.Test.YtfmhmnpmdjpmeaaPtSat

namespace Go.Proofs.Ytfmhmnpmdjpmeaa
open Go.RowKit
open Cs (Cn)

/-- the pointer p is a list of scopes that hold the frames fs, the top one first -/
def ScR (w : World) (B : Nat) : Option Addr → List Fm → Prop
  | p, [] => p = none
  | p, f :: r => ∃ b Ak nk ck Ck mk dk q, p = some ⟨b, 0, none⟩ ∧ b < B ∧ w.cell? ⟨b, 0, none⟩ = some (.slice Ak nk ck) ∧ w.cell? ⟨b, 1, none⟩ = some (.slice Ck mk dk) ∧ w.cell? ⟨b, 2, none⟩ = some (.pointer q) ∧
      IntR w B Ak nk f.1 ∧ ConR w B Ck mk f.2 ∧ nk ≤ 1000 ∧ (mk : Int) ≤ 1048576 ∧ (Ck = none → dk = 0) ∧ (∀ a, q = some a → a.block < b) ∧ ScR w B q r
theorem ScR.below {w w' : World} {B : Nat} (hb : Below B w w') : ∀ {fs : List Fm} {p : Option Addr}, ScR w B p fs → ScR w' B p fs
  | [], _, h => h
  | f :: r, p, h => by
    obtain ⟨b, Ak, nk, ck, Ck, mk, dk, q, hp, hB, c0, c1, c2, t1, t2, hn, hm, hz, hd, hr⟩ := h
    exact ⟨b, Ak, nk, ck, Ck, mk, dk, q, hp, hB, (hb.cell (p := ⟨b, 0, none⟩) hB).trans c0, (hb.cell (p := ⟨b, 1, none⟩) hB).trans c1, (hb.cell (p := ⟨b, 2, none⟩) hB).trans c2, t1.below hb, t2.below hb, hn, hm, hz, hd, hr.below hb⟩
theorem ScR.more {w : World} {B B' : Nat} (hB : B ≤ B') : ∀ {fs : List Fm} {p : Option Addr}, ScR w B p fs → ScR w B' p fs
  | [], _, h => h
  | f :: r, p, h => by
    obtain ⟨b, Ak, nk, ck, Ck, mk, dk, q, hp, hb, c0, c1, c2, t1, t2, hn, hm, hz, hd, hr⟩ := h
    exact ⟨b, Ak, nk, ck, Ck, mk, dk, q, hp, by omega, c0, c1, c2, t1.more hB, t2.more hB, hn, hm, hz, hd, hr.more hB⟩

set_option maxHeartbeats 800000 in
theorem declares_any (w : World) (B : Nat) (A : Option Addr) (n c : Nat) (C : Option Addr) (m d : Nat) (l : List Int) (v : Int) (hB : B ≤ w.heap.size) (hl : IntR w B A n l) (hn : n ≤ 1000) :
    Calls Try.prog 97 #[.agg #[.slice A n c, .slice C m d], .int .i64 v] w fun e w' => e = .returned (.bool (inI l v)) ∧ Below w.heap.size w w' := by
  have hb : Below w.heap.size w (w.alloc (.cells #[.slice A n c, .slice C m d] 74)) := (Below.refl _ _).alloc (Nat.le_refl _) _
  have HL := Lib.hid (hl.below (hb.mono hB))
  clear hl
  go_enter Try.func97, Try.ntmps97
  go_wp2_with fail
  refine (containsI_any _ B A n c l v HL.out hn).mono ?_
  rintro e w1 ⟨rfl, rfl⟩
  go_wp2
  go_ret
  exact ⟨rfl, hb⟩

theorem inI_append (a b : List Int) (v : Int) : inI (a ++ b) v = (inI a v || inI b v) := by
  unfold inI; rw [Bool.eq_iff_iff]; simp
theorem liveF_cons (f : Fm) (r : List Fm) : liveF (f :: r) = f.1 ++ liveF r := rfl
/-- how deep a pointer lies -/
def ptrN : Value → Nat
  | .pointer (some a) => a.block + 1
  | _ => 0
set_option maxRecDepth 100000 in
set_option maxHeartbeats 1600000 in
theorem isLive_any (w : World) (B : Nat) (p : Option Addr) (fs : List Fm) (v : Int) (hB : B ≤ w.heap.size) (hs : ScR w B p fs) :
    Calls Try.prog 80 #[.pointer p, .int .i64 v] w fun e w' => e = .returned (.bool (inI (liveF fs) v)) ∧ Below w.heap.size w w' := by
  have HS := Lib.hid hs
  clear hs
  go_enter Try.func80, Try.ntmps80
  go_wp2
  go_loopw [0] (fun i wr => ∃ (q : Option Addr) (r : List Fm), i = .pointer q ∧ Hid (ScR w B q r) ∧ Hid (inI (liveF fs) v = inI (liveF r) v) ∧ Hid (Below w.heap.size w wr)) (fun i _ => ptrN i)
  case atStart => exact ⟨p, fs, rfl, HS.out, rfl, Below.refl _ _⟩
  case round =>
    clear HS
    obtain ⟨q, r, rfl, HR, HE, HB⟩ := hrel
    have hsr := HB.out.size
    cases r with
    | nil =>
      have hq : q = none := HR.out
      subst hq
      have HF : Hid (inI (liveF fs) v = false) := by show _ = _; rw [HE.out]; rfl
      go_wp2
      go_ret
      exact ⟨by rw [HF.out]; rfl, HB.out⟩
    | cons f r =>
      obtain ⟨b, Ak, nk, ck, Ck, mk, dk, q2, hq, hb, c0, c1, c2, t1, t2, hn, hm, hz, hd, hr⟩ := HR.out.below (HB.out.mono hB)
      subst hq
      have HT1 := Lib.hid t1
      have HQ2 : Hid (ScR w B q2 r) := by
        obtain ⟨_, _, _, _, _, _, _, q3, hq3, hb3, _, _, x2, _, _, _, _, _, _, hr3⟩ := HR.out
        injection hq3 with hq3; injection hq3 with e1 e2
        subst e1
        rw [HB.out.cell (p := ⟨b, 2, none⟩) (by show b < _; omega), x2] at c2
        injection c2 with c2; injection c2 with c2
        subst c2
        exact hr3
      have HD := Lib.hid hd
      clear t1 t2 hr hz hm hd
      go_wp2_with fail
      refine (declares_any wr B Ak nk ck Ck mk dk f.1 v (by omega) HT1.out hn).mono ?_
      rintro e w1 ⟨rfl, hb1⟩
      have HB2 := Lib.hid (HB.out.trans (hb1.mono hsr))
      have k2 : w1.cell? ⟨b, 2, none⟩ = some (.pointer q2) := (hb1.cell (p := ⟨b, 2, none⟩) (by show b < _; omega)).trans c2
      clear hb1 c0 c1 c2
      cases hi : inI f.1 v with
      | true =>
        have HF : Hid (inI (liveF fs) v = true) := by show _ = _; rw [HE.out, liveF_cons, inI_append, hi]; rfl
        clear hi
        go_wp2
        go_ret
        exact ⟨by rw [HF.out]; rfl, HB2.out⟩
      | false =>
        have HE2 : Hid (inI (liveF fs) v = inI (liveF r) v) := by show _ = _; rw [HE.out, liveF_cons, inI_append, hi]; rfl
        clear hi
        go_wp2
        go_roundw
        case rel => exact ⟨q2, r, rfl, HQ2.out, HE2.out, HB2.out⟩
        case measure =>
          cases q2 with
          | none => simp [ptrN]
          | some a => have := HD.out a rfl; simp [ptrN]; omega

set_option maxHeartbeats 800000 in
theorem scopeSide_any (w : World) (B : Nat) (p : Option Addr) (fs : List Fm) (v : Int) (hB : B ≤ w.heap.size) (hs : ScR w B p fs) :
    Calls Try.prog 99 #[.pointer p, .int .i64 v] w fun e w' => e = .returned (.bool (sideIn (liveF fs) v)) ∧ Below w.heap.size w w' := by
  by_cases h1 : v = -1
  · subst h1
    go_enter Try.func99, Try.ntmps99
    go_wp2
    go_ret
    exact ⟨rfl, Below.refl _ _⟩
  · have d1 : (v == -1) = false := by simpa using h1
    have HF : Hid (sideIn (liveF fs) v = inI (liveF fs) v) := by show _ = _; unfold sideIn; rw [d1]; rfl
    go_enter Try.func99, Try.ntmps99
    go_wp2_with fail
    refine (isLive_any w B p fs v hB hs).mono ?_
    rintro e w1 ⟨rfl, hb1⟩
    rw [← HF.out]
    go_wp2
    go_ret
    exact ⟨rfl, hb1⟩
set_option maxRecDepth 100000 in
set_option maxHeartbeats 1600000 in
theorem scopeCon_any (w : World) (B : Nat) (p : Option Addr) (fs : List Fm) (U R V : Int) (hB : B ≤ w.heap.size) (hs : ScR w B p fs) :
    Calls Try.prog 81 #[.pointer p, .agg #[.int .i64 U, .int .i64 R, .int .i64 V]] w fun e w' => e = .returned (.bool (conIn (liveF fs) (U, R, V))) ∧ Below w.heap.size w w' := by
  obtain ⟨W, hW⟩ : ∃ W, w.alloc (.cells #[.int .i64 U, .int .i64 R, .int .i64 V] 78) = W := ⟨_, rfl⟩
  have hb0 : Below w.heap.size w W := by rw [← hW]; exact (Below.refl _ _).alloc (Nat.le_refl _) _
  have hs0 : W.heap.size = w.heap.size + 1 := by rw [← hW]; simp
  have k0 : Blk W w.heap.size 78 #[.int .i64 U, .int .i64 R, .int .i64 V] := by rw [← hW]; exact Blk.made _ _ _
  have z0 : W.cell? ⟨w.heap.size, 0, none⟩ = some (.int .i64 U) := k0.cell 0
  have z1 : W.cell? ⟨w.heap.size, 1, none⟩ = some (.int .i64 R) := k0.cell 1
  have z2 : W.cell? ⟨w.heap.size, 2, none⟩ = some (.int .i64 V) := k0.cell 2
  have HS := Lib.hid hs
  clear hs
  go_enter Try.func81, Try.ntmps81
  go_wp2_with fail
  refine (implConOk_any W U R V).mono ?_
  rintro e w1 ⟨rfl, hb1⟩
  have hs1 := hb1.size
  have q1 := k0.below hb1 (by omega)
  have y0 : w1.cell? ⟨w.heap.size, 0, none⟩ = some (.int .i64 U) := q1.cell 0
  have HB1 := Lib.hid (hb0.trans (hb1.mono (by omega)))
  have HQ1 := Lib.hid q1
  clear hW z0 z1 z2 k0 hb0 hb1 q1
  cases hc : Cs.cOk (U, R, V) with
  | false =>
    have HF : Hid (conIn (liveF fs) (U, R, V) = false) := by show _ = _; unfold conIn; rw [hc]; rfl
    clear hc
    go_wp2
    go_ret
    exact ⟨by rw [HF.out]; rfl, HB1.out⟩
  | true =>
    go_wp2_with fail
    refine (scopeSide_any w1 B p fs U (by omega) (HS.out.below (HB1.out.mono hB))).mono ?_
    rintro e w2 ⟨rfl, hb2⟩
    have hs2 := hb2.size
    have q2 := HQ1.out.below hb2 (by omega)
    have y2 : w2.cell? ⟨w.heap.size, 2, none⟩ = some (.int .i64 V) := q2.cell 2
    have HB2 := Lib.hid (HB1.out.trans (hb2.mono (by omega)))
    clear hb2 q2 HQ1 y0
    cases hu : sideIn (liveF fs) U with
    | false =>
      have HF : Hid (conIn (liveF fs) (U, R, V) = false) := by show _ = _; unfold conIn; rw [hc, hu]; rfl
      clear hc hu
      go_wp2
      go_ret
      exact ⟨by rw [HF.out]; rfl, HB2.out⟩
    | true =>
      have HF : Hid (conIn (liveF fs) (U, R, V) = sideIn (liveF fs) V) := by show _ = _; unfold conIn; rw [hc, hu]; rfl
      clear hc hu
      go_wp2_with fail
      refine (scopeSide_any w2 B p fs V (by omega) (HS.out.below (HB2.out.mono hB))).mono ?_
      rintro e w3 ⟨rfl, hb3⟩
      have HB3 := Lib.hid (HB2.out.trans (hb3.mono (by omega)))
      clear hb3
      rw [← HF.out]
      go_wp2
      go_ret
      exact ⟨rfl, HB3.out⟩
end Go.Proofs.Ytfmhmnpmdjpmeaa

namespace Go.Proofs.Ytfmhmnpmdjpmeaa
open Go.RowKit
open Cs (Cn)

theorem IntR.take {w : World} {B n k : Nat} {A : Option Addr} {l : List Int} (h : IntR w B A n l) (hk : k ≤ n) : IntR w B A k (l.take k) := by
  refine ⟨by rw [List.length_take, h.1]; omega, fun h0 => ?_⟩
  obtain ⟨b, off, e, hb, hc⟩ := h.2 (by omega)
  refine ⟨b, off, e, hb, fun j hj => ?_⟩
  have := hc j (by omega)
  rw [List.getD_eq_getElem?_getD] at this ⊢
  rw [List.getElem?_take_of_lt hj]
  exact this
theorem parOk_parts (L : List Int) (p : Int) : parOk L p = ((decide (0 ≤ p) && decide (p < 5)) && !inI L p) := rfl
theorem sideIn_same {L M : List Int} (h : ∀ v, inI L v = inI M v) (v : Int) : sideIn L v = sideIn M v := by unfold sideIn; rw [h]
theorem conIn_same {L M : List Int} (h : ∀ v, inI L v = inI M v) (t : Cn) : conIn L t = conIn M t := by unfold conIn; rw [sideIn_same h, sideIn_same h]

set_option maxRecDepth 100000 in
set_option maxHeartbeats 4000000 in
theorem frameOk_any (w : World) (B b : Nat) (Ak : Option Addr) (nk ck : Nat) (Ck : Option Addr) (mk dk : Nat) (q : Option Addr) (f : Fm) (r : List Fm) (L : List Int) (hB : B ≤ w.heap.size) (hb : b < B)
    (c0 : w.cell? ⟨b, 0, none⟩ = some (.slice Ak nk ck)) (c1 : w.cell? ⟨b, 1, none⟩ = some (.slice Ck mk dk)) (c2 : w.cell? ⟨b, 2, none⟩ = some (.pointer q))
    (t1 : IntR w B Ak nk f.1) (t2 : ConR w B Ck mk f.2) (hn : nk ≤ 1048576) (hm : mk ≤ 1048576) (hck : nk ≤ ck) (hz : Ck = none → dk = 0) (hd : ∀ a, q = some a → a.block < b) (hr : ScR w B q r)
    (hL : ∀ v, inI (liveF r) v = inI L v) (hS : Slim L) :
    Calls Try.prog 66 #[.pointer (some ⟨b, 0, none⟩)] w fun e w' => e = .returned (.bool (frmR L f)) ∧ Below w.heap.size w w' := by
  have HT1 := Lib.hid t1
  have HT2 := Lib.hid t2
  have HR := Lib.hid hr
  have HL := Lib.hid hL
  have HS := Lib.hid hS
  have HC : Hid (∀ X, Below w.heap.size w X → X.cell? ⟨b, 0, none⟩ = some (.slice Ak nk ck) ∧ X.cell? ⟨b, 1, none⟩ = some (.slice Ck mk dk) ∧ X.cell? ⟨b, 2, none⟩ = some (.pointer q)) := fun X h =>
    ⟨(h.cell (p := ⟨b, 0, none⟩) (by show b < _; omega)).trans c0, (h.cell (p := ⟨b, 1, none⟩) (by show b < _; omega)).trans c1, (h.cell (p := ⟨b, 2, none⟩) (by show b < _; omega)).trans c2⟩
  have HZ := Lib.hid hz
  have HD := Lib.hid hd
  clear t1 t2 hr hL hS c1 c2 hz hd
  go_enter Try.func66, Try.ntmps66
  go_wp2
  go_loopw [13] (fun i wr => ∃ k : Nat, k ≤ nk ∧ i = .int .i64 k ∧ Hid (∀ j, j < k → parOk (L ++ f.1.take j) (f.1.getD j 0) = true) ∧ Hid (Below w.heap.size w wr)) (fun i _ => nk - (intOf i).toNat)
  case atStart => exact ⟨0, Nat.zero_le _, rfl, fun j hj => absurd hj (by omega), Below.refl _ _⟩
  case round =>
    clear c0
    obtain ⟨k, hk, rfl, HA, HB⟩ := hrel
    have hsr := HB.out.size
    obtain ⟨d0, d1, d2⟩ := HC.out _ HB.out
    by_cases hlt : k < nk
    · have hki : (k : Int) < (nk : Int) := by omega
      have hkc : (k : Int) ≤ (ck : Int) := by omega
      obtain ⟨bp, off, hA, hbp, hcp⟩ := HT1.out.2 (by omega)
      have x1 := hcp k hlt
      have HLN : Hid (f.1.length = nk) := HT1.out.1
      obtain ⟨t, ht⟩ : ∃ t, f.1.getD k 0 = t := ⟨_, rfl⟩
      rw [ht] at x1
      have HT := Lib.hid ht
      have y1 := (HB.out.cell (p := ⟨bp, off + k, none⟩) (by show bp < _; omega)).trans x1
      have HSL : Hid (Slim (L ++ f.1.take k)) := slim_pars HS.out k (by rw [HLN.out]; omega) HA.out
      have HK5 : Hid (k ≤ 5) := by
        have h := HSL.out.len
        rw [List.length_append, List.length_take, HLN.out] at h
        show k ≤ 5
        omega
      have HTK : Hid (IntR wr B Ak k (f.1.take k)) := (HT1.out.below (HB.out.mono hB)).take (by omega)
      subst hA
      clear hcp x1 ht
      go_wp2_with fail
      refine (parOk_any wr t).mono ?_
      rintro e w1 ⟨rfl, rfl⟩
      cases hpo : (decide (0 ≤ t) && decide (t < 5)) with
      | false =>
        have HF : Hid (frmR L f = false) := frmR_par (parsR_not (by rw [HLN.out]; exact hlt) (by rw [HT.out, parOk_parts, hpo]; rfl))
        clear hpo
        go_wp2
        go_ret
        exact ⟨by rw [HF.out]; rfl, HB.out⟩
      | true =>
        go_wp2_with fail
        refine (containsI_any w1 B (some ⟨bp, off, none⟩) k ck (f.1.take k) t HTK.out (by have := HK5.out; omega)).mono ?_
        rintro e w2 ⟨rfl, rfl⟩
        cases hin : inI (f.1.take k) t with
        | true =>
          have HF : Hid (frmR L f = false) := frmR_par (parsR_not (by rw [HLN.out]; exact hlt) (by rw [HT.out, parOk_parts, inI_append, hin]; simp))
          clear hpo hin
          go_wp2
          go_ret
          exact ⟨by rw [HF.out]; rfl, HB.out⟩
        | false =>
          go_wp2_with fail
          refine (isLive_any w2 B q r t (by omega) (HR.out.below (HB.out.mono hB))).mono ?_
          rintro e w3 ⟨rfl, hb3⟩
          have HB3 := Lib.hid (HB.out.trans (hb3.mono hsr))
          clear hb3
          cases hlv : inI (liveF r) t with
          | true =>
            have HF : Hid (frmR L f = false) := frmR_par (parsR_not (by rw [HLN.out]; exact hlt) (by rw [HT.out, parOk_parts, inI_append, ← HL.out, hlv]; simp))
            clear hpo hin hlv
            go_wp2
            go_ret
            exact ⟨by rw [HF.out]; rfl, HB3.out⟩
          | false =>
            have HA2 : Hid (∀ j, j < k + 1 → parOk (L ++ f.1.take j) (f.1.getD j 0) = true) := fun j hj => by
              by_cases e : j = k
              · subst e; rw [HT.out, parOk_parts, hpo, inI_append, ← HL.out, hlv, hin]; rfl
              · exact HA.out j (by omega)
            clear hpo hin hlv
            go_wp2
            go_roundw
            case rel => exact ⟨k + 1, by omega, by go_num, HA2.out, HB3.out⟩
            case measure => simp [intOf]; omega
    · obtain rfl : k = nk := by omega
      have hkk : ¬ (k : Int) < (k : Int) := by omega
      have HPR : Hid (parsR L f.1 = true) := all_range.2 (fun j hj => HA.out j (by rw [← HT1.out.1]; exact hj))
      have HN5 : Hid (k ≤ 5) := by
        have h := (slim_pars HS.out k (by rw [HT1.out.1]; omega) HA.out).len
        rw [List.length_append, List.length_take, HT1.out.1] at h
        show k ≤ 5
        omega
      have HFC : Hid (frmR L f = consR (L ++ f.1) f.2) := by show _ = _; unfold frmR; rw [HPR.out]; rfl
      have HSC : Hid (∀ X, Below w.heap.size w X → ScR X B (some ⟨b, 0, none⟩) (f :: r)) := fun X h => by
        obtain ⟨d0, d1, d2⟩ := HC.out X h
        exact ⟨b, Ak, k, ck, Ck, mk, dk, q, rfl, hb, d0, d1, d2, HT1.out.below (h.mono hB), HT2.out.below (h.mono hB), by have := HN5.out; omega, by omega, HZ.out, HD.out, HR.out.below (h.mono hB)⟩
      have HIN : Hid (∀ v, inI (liveF (f :: r)) v = inI (L ++ f.1) v) := fun v => by rw [liveF_cons, inI_append, inI_append, HL.out, Bool.or_comm]
      clear hkk
      go_wp2
      go_loopw [47] (fun i wr => ∃ j : Nat, j ≤ mk ∧ i = .int .i64 j ∧ Hid (∀ u, u < j → conIn (L ++ f.1) (f.2.getD u (0, 0, 0)) = true) ∧ Hid (Below w.heap.size w wr)) (fun i _ => mk - (intOf i).toNat)
      case atStart => exact ⟨0, Nat.zero_le _, rfl, fun j hj => absurd hj (by omega), HB.out⟩
      case round =>
        clear d0 d1 d2 hsr HB HA
        obtain ⟨j, hj, rfl, HA, HB⟩ := hrel
        have hsr := HB.out.size
        by_cases hlt : j < mk
        · have hji : (j : Int) < (mk : Int) := by omega
          obtain ⟨bp, off, hA, hbp, hcp⟩ := HT2.out.2 (by omega)
          obtain ⟨x1, x2, x3⟩ := hcp j hlt
          have HLN : Hid (f.2.length = mk) := HT2.out.1
          obtain ⟨t, ht⟩ : ∃ t, f.2.getD j (0, 0, 0) = t := ⟨_, rfl⟩
          rw [ht] at x1 x2 x3
          obtain ⟨U, R, V⟩ := t
          have HT := Lib.hid ht
          subst hA
          have k1 := (HB.out.cell (p := ⟨bp, off + j * 3, none⟩) (by show bp < _; omega)).trans x1
          have k2 := (HB.out.cell (p := ⟨bp, off + j * 3 + 1, none⟩) (by show bp < _; omega)).trans x2
          have k3 := (HB.out.cell (p := ⟨bp, off + j * 3 + 2, none⟩) (by show bp < _; omega)).trans x3
          obtain ⟨W1, hW1⟩ : ∃ W1, wr.alloc (.cells #[.int .i64 U, .int .i64 R, .int .i64 V] 78) = W1 := ⟨_, rfl⟩
          have hb1 : Below wr.heap.size wr W1 := by rw [← hW1]; exact (Below.refl _ _).alloc (Nat.le_refl _) _
          have hbx : Blk W1 wr.heap.size 78 #[.int .i64 U, .int .i64 R, .int .i64 V] := by rw [← hW1]; exact Blk.made _ _ _
          have y0 : W1.cell? ⟨wr.heap.size, 0, none⟩ = some (.int .i64 U) := hbx.cell 0
          have y1 : W1.cell? ⟨wr.heap.size, 1, none⟩ = some (.int .i64 R) := hbx.cell 1
          have y2 : W1.cell? ⟨wr.heap.size, 2, none⟩ = some (.int .i64 V) := hbx.cell 2
          have HB1 := Lib.hid (HB.out.trans (hb1.mono hsr))
          clear hcp x1 x2 x3 ht hbx hb1
          go_wp2_with fail
          refine (scopeCon_any W1 B (some ⟨b, 0, none⟩) (f :: r) U R V (by have := HB1.out.size; omega) (HSC.out _ HB1.out)).mono ?_
          rintro e w2 ⟨rfl, hb2⟩
          rw [conIn_same HIN.out]
          have HB2 := Lib.hid (HB1.out.trans (hb2.mono HB1.out.size))
          clear hb2
          cases hok : conIn (L ++ f.1) (U, R, V) with
          | true =>
            have HA2 : Hid (∀ u, u < j + 1 → conIn (L ++ f.1) (f.2.getD u (0, 0, 0)) = true) := fun u hu => by
              by_cases e : u = j
              · subst e; rw [HT.out]; exact hok
              · exact HA.out u (by omega)
            clear hok
            go_wp2
            go_roundw
            case rel => exact ⟨j + 1, by omega, by go_num, HA2.out, HB2.out⟩
            case measure => simp [intOf]; omega
          | false =>
            have HF : Hid (frmR L f = false) := frmR_con (consR_not (by rw [HLN.out]; exact hlt) (by rw [HT.out]; exact hok))
            clear hok
            go_wp2
            go_ret
            exact ⟨by rw [HF.out]; rfl, HB2.out⟩
        · obtain rfl : j = mk := by omega
          have hkk : ¬ (j : Int) < (j : Int) := by omega
          have HF : Hid (frmR L f = true) := by
            show _ = _
            rw [HFC.out]
            exact all_range.2 (fun u hu => HA.out u (by rw [← HT2.out.1]; exact hu))
          go_wp2
          go_ret
          exact ⟨by rw [HF.out]; rfl, HB.out⟩
end Go.Proofs.Ytfmhmnpmdjpmeaa
