/- The program: the constraints of all scopes, from the bottom to the top, in new memory. -/
/- The program: a session as a list of scopes; SessOk. -/
/- The law FnExactSessOk: the walk. -/
/- What every row of a seat without variables needs: an argument that is a slice of atoms, of numbers, of bytes. -/
import Derived.Test.YtfmhmnpmdjpmeaaSsI2
import Derived.Laws.AppendOwnNone
import Derived.Test.YtfmhmnpmdjpmeaaSsS2
import Derived.Test.YtfmhmnpmdjpmeaaMarks
import Derived.ProofKit
import Derived.OpenShut
import Derived.OpenVars
import Derived.Deep.SlicePairs
import Derived.Deep.DeepHandedRow
import Derived.LaidLaws
import Derived.ChangeVars
import Derived.SizedLaws

namespace Go.Proofs.Ytfmhmnpmdjpmeaa
open Go.RowKit
open Cs (Cn)

theorem step_app_own {P : Program} (w : World) {ops : Array Oper} {o : Oper} {a : Act} {K : Act → World → Prop} {Q : Exit → Act → World → Prop} {E : Prop} (hgd : o.guard = none) (s x : Operand) (t : TypeId)
    (ho : o.op = .call { callee := .builtin .append, args := #[s, x], argTypes := #[t, t] })
    (base : Nat) (e : TypeId) (i : TypeInfo) (z : Value) (size bytes : Nat) (ht : P.underlying t = some (.slice e)) (hi : P.info? e = some i) (hz : i.zero = some z)
    (hsize : i.size = size) (hby : i.bytes = bytes) (hzs : z.cells.size = size) (hsz : 0 < size)
    (v : Value) (n : Nat) (xs : List Value) (hs : a.eval s = v) (hown : w.ownsRow base e size v n xs)
    (ad : Addr) (m c : Nat) (news : List Value) (hx : a.eval x = .slice (some ad) m c) (hl : news.length = m * size) (hnews : ∀ j u, news[j]? = some u → w.cell? (ad.add j) = some u) (h1 : ∀ u ∈ news, u.oneCell' = true)
    (h63 : n + m ≤ maxLen) (hbytes : (n + m) * bytes ≤ 140737488355328) (hbase : base ≤ w.heap.size)
    (h : ∀ v' w', w'.ownsRow base e size v' (n + m) (xs ++ news) → w.grownBy w' v.ownBlock → (v' = .slice none 0 0 ↔ v = .slice none 0 0 ∧ m = 0) → K (a.put o.dst v') w') :
    if Region.wanted o (yielded ops a.tmps) = true then Oper.wp P o a w K Q else E := by
  rw [if_pos (by simp [Region.wanted, hgd])]
  exact wp_append_own w s x t ho base e i z size bytes ht hi hz hsize hby hzs hsz v n xs hs hown ad m c news hx hl hnews h1 h63 hbytes hbase h

theorem step_app_none {P : Program} (w : World) {ops : Array Oper} {o : Oper} {a : Act} {K : Act → World → Prop} {Q : Exit → Act → World → Prop} {E : Prop} (hgd : o.guard = none) (s x : Operand) (t : TypeId)
    (ho : o.op = .call { callee := .builtin .append, args := #[s, x], argTypes := #[t, t] })
    (base : Nat) (e : TypeId) (i : TypeInfo) (size : Nat) (ht : P.underlying t = some (.slice e)) (hi : P.info? e = some i)
    (v : Value) (n : Nat) (xs : List Value) (hs : a.eval s = v) (hown : w.ownsRow base e size v n xs) (hx : a.eval x = .slice none 0 0)
    (h : K (a.put o.dst v) w) :
    if Region.wanted o (yielded ops a.tmps) = true then Oper.wp P o a w K Q else E := by
  rw [if_pos (by simp [Region.wanted, hgd])]
  have hrun := run_append_owned_none (P := P) (w := w) base t o.type e i size ht hi v n xs hown
  unfold Oper.wp
  simp [execOp, ho, resolve, invoke, builtin, hs, hx, hrun, Result.andThen]
  exact h
theorem addr_add (b off j : Nat) : (⟨b, off, none⟩ : Addr).add j = ⟨b, off + j, none⟩ := by
  unfold Addr.add
  by_cases h : j = 0
  · subst h; rfl
  · rw [if_neg h]
theorem ConR.news {w : World} {B b off n : Nat} {l : List Cn} (h : ConR w B (some ⟨b, off, none⟩) n l) : ∀ j u, (conCells l)[j]? = some u → w.cell? ((⟨b, off, none⟩ : Addr).add j) = some u := by
  intro j u hu
  have hj : j < l.length * 3 := by have := (List.getElem?_eq_some_iff.1 hu).1; rw [conCells_len] at this; exact this
  have hn := h.1
  obtain ⟨b', off', e, _, hc⟩ := h.2 (by omega)
  injection e with e; injection e with e1 e2
  subst e1; subst e2
  have hk : j / 3 < n := by omega
  obtain ⟨a0, a1, a2⟩ := hc (j / 3) hk
  obtain ⟨x0, x1, x2⟩ := conCells_at l (j / 3) (by omega)
  rw [addr_add]
  rcases (show j = j / 3 * 3 ∨ j = j / 3 * 3 + 1 ∨ j = j / 3 * 3 + 2 by omega) with h | h | h
  · rw [h] at hu ⊢
    rw [x0] at hu; injection hu with hu; subst hu
    exact a0
  · rw [h] at hu ⊢
    rw [x1] at hu; injection hu with hu; subst hu
    rw [← Nat.add_assoc]; exact a1
  · rw [h] at hu ⊢
    rw [x2] at hu; injection hu with hu; subst hu
    rw [← Nat.add_assoc]; exact a2
theorem consF_top (f : Fm) (r : List Fm) : consF (f :: r).reverse = consF r.reverse ++ f.2 := by
  unfold consF; simp

theorem own_sliceF {w : World} {base n : Nat} {e : TypeId} {sz : Nat} {v : Value} {xs : List Value} (h : w.ownsRow base e sz v n xs) : ∃ A c, v = .slice A n c := by
  rcases h.2 with ⟨h0, h1⟩ | ⟨g', cap', _, h0, _⟩
  · exact ⟨none, 0, by rw [h0, h1]⟩
  · exact ⟨_, cap', h0⟩
set_option maxRecDepth 100000 in
set_option maxHeartbeats 4000000 in
theorem consOf_any : ∀ (fs : List Fm) (w : World) (B : Nat) (p : Option Addr), B ≤ w.heap.size → ScR w B p fs → fs.length ≤ 8 →
    Calls Try.prog 54 #[.pointer p] w fun e w' => ∃ A n c, e = .returned (.slice A n c) ∧ OwnC w' w.heap.size A n c (consF fs.reverse) ∧ n ≤ fs.length * 1048576 ∧ Below w.heap.size w w'
  | [], w, B, p, hB, hs, _ => by
    have hp : p = none := hs
    subst hp
    go_enter Try.func54, Try.ntmps54
    go_wp2
    go_ret
    refine ⟨none, 0, 0, rfl, ⟨rfl, .inl ⟨rfl, rfl⟩⟩, by omega, Below.refl _ _⟩
  | f :: r, w, B, p, hB, hs, h8 => by
    obtain ⟨b, Ak, nk, ck, Ck, mk, dk, q, hp, hb, c0, c1, c2, t1, t2, hn, hm, hz, hd, hr⟩ := hs
    subst hp
    obtain ⟨i0, hi, hz0, hz1, hz2⟩ := info_parts info_con
    simp only [List.length_cons] at h8
    have HR := Lib.hid (consOf_any r w.drew B q hB (hr.below (B := B) ((Below.refl B w).drew)) (by omega))
    have HT2 := Lib.hid t2
    have HZ := Lib.hid hz
    have HM : Hid ((mk : Int) ≤ 1048576) := hm
    clear t1 t2 hr hz hm hn hd
    have HN0 : ∀ X, Below w.heap.size w X → ∀ a, Ck = some a → ∀ j u, (conCells f.2)[j]? = some u → X.cell? (a.add j) = some u := by
      intro X hX a ha j u hu
      have hl := HT2.out.1
      have hj : j < f.2.length * 3 := by have := (List.getElem?_eq_some_iff.1 hu).1; rw [conCells_len] at this; exact this
      obtain ⟨b', off', e, _⟩ := HT2.out.2 (by omega)
      have hr := HT2.out.below (hX.mono hB)
      rw [e] at hr ha
      injection ha with ha
      subst ha
      exact hr.news j u hu
    have HN := Lib.hid HN0
    have HLM : Hid (f.2.length = mk) := HT2.out.1
    have HCL : Hid ((conCells f.2).length = mk * 3) := by show _ = _; rw [conCells_len, HLM.out]
    clear HN0
    rw [consF_top]
    cases Ck with
    | none =>
      obtain rfl : dk = 0 := HZ.out rfl
      obtain rfl : mk = 0 := by
        by_cases h : 0 < mk
        · obtain ⟨_, _, e, _⟩ := HT2.out.2 h; cases e
        · omega
      have HE : Hid (f.2 = []) := List.length_eq_zero_iff.1 HT2.out.1
      go_enter Try.func54, Try.ntmps54
      go_wp2_with fail
      go_region_held3 (fun w' => w'.cell? ⟨b, 0, none⟩ = some (.slice Ak nk ck) ∧ w'.cell? ⟨b, 1, none⟩ = some (.slice none 0 0) ∧ w'.cell? ⟨b, 2, none⟩ = some (.pointer q))
        (first
          | go_keep
          | exact ⟨HCC.out.1, HCC.out.2.1, HCC.out.2.2⟩)
        (first
          | (go_at_call 54
             refine HR.out.mono ?_
             rintro e w1 ⟨A, n, c, rfl, ho1, hn1, hb1⟩
             have HCC : Hid (w1.cell? ⟨b, 0, none⟩ = some (.slice Ak nk ck) ∧ w1.cell? ⟨b, 1, none⟩ = some (.slice none 0 0) ∧ w1.cell? ⟨b, 2, none⟩ = some (.pointer q)) := ⟨(hb1.cell (p := ⟨b, 0, none⟩) (by show b < w.heap.size; omega)).trans c0, (hb1.cell (p := ⟨b, 1, none⟩) (by show b < w.heap.size; omega)).trans c1, (hb1.cell (p := ⟨b, 2, none⟩) (by show b < w.heap.size; omega)).trans c2⟩)
          | (refine step_app_none _ (by rfl) _ _ _ (by rfl) w.heap.size 78 i0 3 Try.underlying48 hi (.slice A n c) n (conCells (consF r.reverse)) (by rfl) ho1 (by rfl) ?_))
      go_wp2
      go_ret
      refine ⟨A, n, c, rfl, ?_, ?_, (Below.refl w.heap.size w).drew.trans (show Below w.heap.size w.drew w1 from hb1)⟩
      · rw [HE.out, List.append_nil]
        exact ho1
      · exact Nat.le_trans hn1 (Nat.mul_le_mul_right _ (Nat.le_succ _))
    | some ad =>
      go_enter Try.func54, Try.ntmps54
      go_wp2_with fail
      go_region_held3 (fun w' => w'.cell? ⟨b, 0, none⟩ = some (.slice Ak nk ck) ∧ w'.cell? ⟨b, 1, none⟩ = some (.slice (some ad) mk dk) ∧ w'.cell? ⟨b, 2, none⟩ = some (.pointer q))
        (first
          | go_keep
          | exact ⟨HCD.out.1, HCD.out.2.1, HCD.out.2.2⟩
          | exact ⟨HCC.out.1, HCC.out.2.1, HCC.out.2.2⟩)
        (first
          | (go_at_call 54
             refine HR.out.mono ?_
             rintro e w1 ⟨A, n, c, rfl, ho1, hn1, hb1⟩
             have HCC : Hid (w1.cell? ⟨b, 0, none⟩ = some (.slice Ak nk ck) ∧ w1.cell? ⟨b, 1, none⟩ = some (.slice (some ad) mk dk) ∧ w1.cell? ⟨b, 2, none⟩ = some (.pointer q)) := ⟨(hb1.cell (p := ⟨b, 0, none⟩) (by show b < w.heap.size; omega)).trans c0, (hb1.cell (p := ⟨b, 1, none⟩) (by show b < w.heap.size; omega)).trans c1, (hb1.cell (p := ⟨b, 2, none⟩) (by show b < w.heap.size; omega)).trans c2⟩)
          | (refine step_app_own _ (by rfl) _ _ _ (by rfl) w.heap.size 78 i0 (.agg #[.int .i64 0, .int .i64 0, .int .i64 0]) 3 24 Try.underlying48 hi hz0 hz1 hz2 rfl (by decide) (.slice A n c) n (conCells (consF r.reverse)) (by rfl) ho1 ad mk dk (conCells f.2) (by rfl) HCL.out (HN.out _ ⟨hb1.os, hb1.tape, hb1.output, hb1.size, hb1.block⟩ ad rfl) (conCells_one _) (by have := HM.out; unfold maxLen; omega) (by have := HM.out; omega) (by have := hb1.size; exact this) ?_
             intro v' w' hown' hgrow' _
             have HBW : Hid (Below w.heap.size w w') := ((Below.refl w.heap.size w).drew.trans (show Below w.heap.size w.drew w1 from hb1)).grown hgrow' (by have := hb1.size; exact this) (fun k h => (ho1.lt k h).1)
             have HCD : Hid (w'.cell? ⟨b, 0, none⟩ = some (.slice Ak nk ck) ∧ w'.cell? ⟨b, 1, none⟩ = some (.slice (some ad) mk dk) ∧ w'.cell? ⟨b, 2, none⟩ = some (.pointer q)) := ⟨(HBW.out.cell (p := ⟨b, 0, none⟩) (by show b < w.heap.size; omega)).trans c0, (HBW.out.cell (p := ⟨b, 1, none⟩) (by show b < w.heap.size; omega)).trans c1, (HBW.out.cell (p := ⟨b, 2, none⟩) (by show b < w.heap.size; omega)).trans c2⟩))
      obtain ⟨A', c', rfl⟩ := own_sliceF hown'
      go_wp2
      go_ret
      refine ⟨A', n + mk, c', rfl, ?_, ?_, HBW.out⟩
      · show w'.ownsRow _ _ _ _ _ _
        rw [conCells_append]
        exact hown'
      · have := HM.out
        omega
end Go.Proofs.Ytfmhmnpmdjpmeaa

namespace Go.Proofs.Ytfmhmnpmdjpmeaa
open Go.RowKit
open Cs (Cn)

theorem ScR.lt {w : World} {B : Nat} {p : Option Addr} {fs : List Fm} (h : ScR w B p fs) : ∀ a, p = some a → a.block < B := by
  intro a ha
  cases fs with
  | nil => have hp : p = none := h; rw [hp] at ha; cases ha
  | cons f r =>
    obtain ⟨b, _, _, _, _, _, _, _, hp, hb, _⟩ := h
    rw [hp] at ha; injection ha with ha; subst ha; exact hb
theorem inI_rev (fs : List Fm) (v : Int) : inI (liveF fs.reverse) v = inI (liveF fs) v := by
  unfold inI liveF; rw [Bool.eq_iff_iff]; simp
theorem take_rev {fs : List Fm} {k : Nat} (hk : k < fs.length) : (fs.take (k + 1)).reverse = fs.getD k fm0 :: (fs.take k).reverse := by
  rw [List.take_succ_eq_append_getElem hk]
  simp [List.getD_eq_getElem?_getD, List.getElem?_eq_getElem hk]
/-- what scopeOf answers -/
def ScopeOut (w : World) (fs : List Fm) (e : Ending) (w' : World) : Prop :=
  (sessR fs = false ∧ e = .returned (.tuple #[.pointer none, .bool false]) ∧ Below w.heap.size w w') ∨
  (sessR fs = true ∧ ∃ p, e = .returned (.tuple #[.pointer p, .bool true]) ∧ ScR w' w'.heap.size p fs.reverse ∧ Below w.heap.size w w')

set_option maxRecDepth 100000 in
set_option maxHeartbeats 4000000 in
theorem scopeOf_any (w : World) (B : Nat) (A : Option Addr) (n c : Nat) (fs : List Fm) (hB : B ≤ w.heap.size) (hl : FrR w B A n fs) (hm : fbulk fs ≤ 1048576) :
    Calls Try.prog 48 #[.agg #[.slice A n c]] w (ScopeOut w fs) := by
  obtain ⟨W0, hW0⟩ : ∃ W, w.alloc (.cells #[.slice A n c] 42) = W := ⟨_, rfl⟩
  have hb0 : Below w.heap.size w W0 := by rw [← hW0]; exact (Below.refl _ _).alloc (Nat.le_refl _) _
  have k0 : Blk W0 w.heap.size 42 #[.slice A n c] := by rw [← hW0]; exact Blk.made _ _ _
  have z0 : W0.cell? ⟨w.heap.size, 0, none⟩ = some (.slice A n c) := k0.cell 0
  have HLN : Hid (fs.length = n) := hl.1
  have hn : n ≤ 1048576 := by have := HLN.out; unfold fbulk at hm; omega
  by_cases hn0 : n = 0
  · subst hn0
    have HF : Hid (sessR fs = false) := by show _ = _; unfold sessR; rw [HLN.out]; rfl
    clear k0 hl
    go_enter Try.func48, Try.ntmps48
    go_wp2
    go_ret2
    exact .inl ⟨HF.out, rfl, hb0⟩
  · have e0 : ((n : Int) == 0) = false := by simp; omega
    by_cases hn8 : n ≤ 8
    · have e8 : ¬ (8 : Int) < (n : Int) := by omega
      have HL := Lib.hid hl
      have HB0 := Lib.hid hb0
      have HM := Lib.hid hm
      clear k0 hl hb0 hm
      go_enter Try.func48, Try.ntmps48
      go_wp2
      go_loopw [4, 20] (fun t i wr => ∃ (k : Nat) (q : Option Addr), k ≤ n ∧ i = .int .i64 k ∧ t = .pointer q ∧ Hid (ScR wr wr.heap.size q (fs.take k).reverse) ∧ Hid (∀ j, j < k → frmR (liveF (fs.take j)) (fs.getD j fm0) = true) ∧ Hid (Below w.heap.size w wr)) (fun _ i _ => n - (intOf i).toNat)
      case atStart => exact ⟨0, none, Nat.zero_le _, rfl, rfl, rfl, fun j hj => absurd hj (by omega), HB0.out⟩
      case round =>
        clear z0 hW0
        obtain ⟨k, q, hk, rfl, rfl, HS, HA, HB⟩ := hrel
        have hsr := HB.out.size
        by_cases hlt : k < n
        · have hki : (k : Int) < (n : Int) := by omega
          obtain ⟨b, off, hA, hb, hc⟩ := (HL.out.below (HB.out.mono hB)).2 (by omega)
          obtain ⟨Ak, nk, ck, Ck, mk, dk, c0, c1, t1, t2, _, _, hck, hz⟩ := hc k hlt
          subst hA
          have hfg := ftot_get fs k (by rw [HLN.out]; exact hlt)
          rw [t1.1, t2.1] at hfg
          have hbk := HM.out
          unfold fbulk at hbk
          have hnk : nk ≤ 1048576 := by omega
          have hmk : mk ≤ 1048576 := by omega
          have hsl := slim_frms k (by rw [HLN.out]; omega) HA.out
          obtain ⟨W2, hW2⟩ : ∃ W, (wr.alloc (.cells #[.slice Ak nk ck, .slice Ck mk dk] 74)).alloc (.cells #[.slice Ak nk ck, .slice Ck mk dk, .pointer q] 102) = W := ⟨_, rfl⟩
          have hb2 : Below wr.heap.size wr W2 := by rw [← hW2]; exact ((Below.refl _ _).alloc (Nat.le_refl _) _).alloc (by simp) _
          have hs2 : W2.heap.size = wr.heap.size + 1 + 1 := by rw [← hW2]; simp
          have k2 : Blk W2 (wr.heap.size + 1) 102 #[.slice Ak nk ck, .slice Ck mk dk, .pointer q] := by
            have h := Blk.made (wr.alloc (.cells #[.slice Ak nk ck, .slice Ck mk dk] 74)) 102 #[.slice Ak nk ck, .slice Ck mk dk, .pointer q]
            rw [World.size_alloc] at h
            rw [← hW2]; exact h
          have HD : Hid (∀ a, q = some a → a.block < wr.heap.size + 1) := fun a ha => by have := HS.out.lt a ha; omega
          have HFC := Lib.hid (frameOk_any W2 W2.heap.size (wr.heap.size + 1) Ak nk ck Ck mk dk q (fs.getD k fm0) (fs.take k).reverse (liveF (fs.take k)) (Nat.le_refl _) (by omega) (k2.cell 0) (k2.cell 1) (k2.cell 2)
            ((t1.below (hb2.mono (by omega))).more (by omega)) ((t2.below (hb2.mono (by omega))).more (by omega)) hnk hmk hck hz HD.out ((HS.out.below hb2).more (by omega)) (fun v => inI_rev _ v) hsl)
          have HT1 := Lib.hid ((t1.below (hb2.mono (by omega))).more (show B ≤ W2.heap.size by omega))
          have HT2 := Lib.hid ((t2.below (hb2.mono (by omega))).more (show B ≤ W2.heap.size by omega))
          have HS2 := Lib.hid ((HS.out.below hb2).more (show wr.heap.size ≤ W2.heap.size by omega))
          have HB2 := Lib.hid (HB.out.trans (hb2.mono hsr))
          have HK2 := Lib.hid k2
          have HZ := Lib.hid hz
          have HSL := Lib.hid hsl
          have HS1 := Lib.hid hs2
          clear hc t1 t2 hfg hbk hsl hb2 k2 hs2 hz
          go_wp2_with fail
          refine HFC.out.mono ?_
          rintro e w3 ⟨rfl, hb3⟩
          have HB3 := Lib.hid (HB2.out.trans (hb3.mono HB2.out.size))
          cases hfr : frmR (liveF (fs.take k)) (fs.getD k fm0) with
          | false =>
            have HF : Hid (sessR fs = false) := sessR_frm (frmsR_not (by rw [HLN.out]; exact hlt) hfr)
            clear hfr hb3
            go_wp2
            go_ret2
            exact .inl ⟨HF.out, rfl, HB3.out⟩
          | true =>
            have HA2 : Hid (∀ j, j < k + 1 → frmR (liveF (fs.take j)) (fs.getD j fm0) = true) := fun j hj => by
              by_cases e : j = k
              · subst e; exact hfr
              · exact HA.out j (by omega)
            have hn5 : nk ≤ 5 := by
              have h := (slim_frms (k + 1) (by rw [HLN.out]; omega) HA2.out).len
              rw [liveF_take (by rw [HLN.out]; exact hlt), List.length_append, HT1.out.1] at h
              omega
            have hk3 := HK2.out.below hb3 HK2.out.lt
            have HS3 : Hid (ScR w3 w3.heap.size (some ⟨wr.heap.size + 1, 0, none⟩) (fs.take (k + 1)).reverse) := by
              show ScR _ _ _ _
              rw [take_rev (by rw [HLN.out]; exact hlt)]
              have hz3 := hb3.size
              have h1 := HS1.out
              exact ⟨wr.heap.size + 1, Ak, nk, ck, Ck, mk, dk, q, rfl, by omega, hk3.cell 0, hk3.cell 1, hk3.cell 2, (HT1.out.below hb3).more hz3, (HT2.out.below hb3).more hz3, by omega, by omega, HZ.out, HD.out, (HS2.out.below hb3).more hz3⟩
            clear hfr hb3 hk3 hn5
            go_wp2
            go_roundw
            case rel => exact ⟨k + 1, some ⟨wr.heap.size + 1, 0, none⟩, by omega, by go_num, rfl, HS3.out, HA2.out, HB3.out⟩
            case measure => simp [intOf]; omega
        · obtain rfl : k = n := by omega
          have hkk : ¬ (k : Int) < (k : Int) := by omega
          have HT : Hid (fs.take k = fs) := List.take_of_length_le (by rw [HLN.out]; omega)
          rw [HT.out] at HS
          have HFR : Hid (frmsR fs = true) := all_range.2 (fun j hj => HA.out j (by rw [← HLN.out]; exact hj))
          have HSR : Hid (sessR fs = satR (consF fs)) := sessR_ok (by rw [HLN.out]; omega) (by rw [HLN.out]; exact hn8) HFR.out
          have HCO := Lib.hid (consOf_any fs.reverse wr wr.heap.size q (Nat.le_refl _) HS.out (by rw [List.length_reverse, HLN.out]; exact hn8))
          clear hkk HA
          go_wp2_with fail
          refine HCO.out.mono ?_
          rintro e w1 ⟨A1, n1, d1, rfl, ho1, hn1, hb1⟩
          rw [List.reverse_reverse] at ho1
          rw [List.length_reverse, HLN.out] at hn1
          have HB1 := Lib.hid (HB.out.trans (hb1.mono hsr))
          have HS1 := Lib.hid ((HS.out.below hb1).more hb1.size)
          clear hb1
          go_wp2_with fail
          refine (implConsSat_any w1 w1.heap.size A1 n1 d1 (consF fs) (Nat.le_refl _) (OwnC.reads ho1) (by omega)).mono ?_
          rintro e w2 ⟨rfl, hb2⟩
          have HB2 := Lib.hid (HB1.out.trans (hb2.mono HB1.out.size))
          have HS2 := Lib.hid ((HS1.out.below hb2).more hb2.size)
          rw [← HSR.out]
          clear hb2 ho1
          cases hsr2 : sessR fs with
          | false =>
            go_wp2
            go_ret2
            exact .inl ⟨hsr2, rfl, HB2.out⟩
          | true =>
            go_wp2
            go_ret2
            exact .inr ⟨hsr2, _, rfl, HS2.out, HB2.out⟩
    · have e8 : (8 : Int) < (n : Int) := by omega
      have HF : Hid (sessR fs = false) := by show _ = _; unfold sessR; rw [HLN.out, decide_eq_false hn8]; simp
      clear k0 hl
      go_enter Try.func48, Try.ntmps48
      go_wp2
      go_ret2
      exact .inl ⟨HF.out, rfl, hb0⟩
set_option maxHeartbeats 800000 in
theorem implSessOk_any (w : World) (B : Nat) (A : Option Addr) (n c : Nat) (fs : List Fm) (hB : B ≤ w.heap.size) (hl : FrR w B A n fs) (hm : fbulk fs ≤ 1048576) :
    Calls Try.prog 21 #[.agg #[.slice A n c]] w fun e w' => e = .returned (.bool (sessR fs)) ∧ Below w.heap.size w w' := by
  obtain ⟨W0, hW0⟩ : ∃ W, w.alloc (.cells #[.slice A n c] 42) = W := ⟨_, rfl⟩
  have hb0 : Below w.heap.size w W0 := by rw [← hW0]; exact (Below.refl _ _).alloc (Nat.le_refl _) _
  have k0 : Blk W0 w.heap.size 42 #[.slice A n c] := by rw [← hW0]; exact Blk.made _ _ _
  have z0 : W0.cell? ⟨w.heap.size, 0, none⟩ = some (.slice A n c) := k0.cell 0
  have HL := Lib.hid (hl.below (hb0.mono hB))
  have HB0 := Lib.hid hb0
  clear k0 hl hb0
  go_enter Try.func21, Try.ntmps21
  go_wp2_with fail
  refine (scopeOf_any W0 B A n c fs (by have := HB0.out.size; omega) HL.out hm).mono ?_
  rintro e w1 (⟨hf, rfl, hb1⟩ | ⟨hf, p, rfl, _, hb1⟩)
  · have HB1 := Lib.hid (HB0.out.trans (hb1.mono HB0.out.size))
    clear hb1
    go_wp2
    go_ret
    exact ⟨by rw [hf]; rfl, HB1.out⟩
  · have HB1 := Lib.hid (HB0.out.trans (hb1.mono HB0.out.size))
    clear hb1
    go_wp2
    go_ret
    exact ⟨by rw [hf]; rfl, HB1.out⟩
end Go.Proofs.Ytfmhmnpmdjpmeaa

namespace Go.Proofs.Ytfmhmnpmdjpmeaa
open Go.RowKit
open Cs (Cn)

set_option maxRecDepth 100000 in
set_option maxHeartbeats 4000000 in
theorem sessOkLaw_any (w : World) (B : Nat) (A : Option Addr) (n c : Nat) (fs : List Fm) (hB : B ≤ w.heap.size) (hl : FrR w B A n fs) (hn : (n : Int) ≤ 9223372036854775807) :
    Calls Try.prog 4 #[.agg #[.slice A n c]] w fun e w' => e = .returned (.bool true) ∧ Below w.heap.size w w' := by
  obtain ⟨W0, hW0⟩ : ∃ W, w.alloc (.cells #[.slice A n c] 37) = W := ⟨_, rfl⟩
  have hb0 : Below w.heap.size w W0 := by rw [← hW0]; exact (Below.refl _ _).alloc (Nat.le_refl _) _
  have hk0 : Blk W0 w.heap.size 37 #[.slice A n c] := by rw [← hW0]; exact Blk.made _ _ _
  have z0 : W0.cell? ⟨w.heap.size, 0, none⟩ = some (.slice A n c) := hk0.cell 0
  have HL := Lib.hid (hl.below (hb0.mono hB))
  have HB0 := Lib.hid hb0
  have HK0 := Lib.hid hk0
  clear hl hb0 hk0
  by_cases hbig : (1048576 : Int) < (fbulk fs : Nat)
  · go_enter Try.func4, Try.ntmps4
    go_wp2_with fail
    refine (szSess_any W0 B A n c fs 1048576 (by have := HB0.out.size; omega) HL.out hn (by omega) (by omega)).mono ?_
    rintro e w1 ⟨rfl, hb1⟩
    have HB1 := Lib.hid (HB0.out.trans (hb1.mono HB0.out.size))
    clear hb1
    rw [szQ_pos hbig]
    go_wp2
    go_ret
    exact ⟨rfl, HB1.out⟩
  · have HM : Hid (fbulk fs ≤ 1048576) := by show _ ≤ _; omega
    have hge : ¬ ((1048576 : Int) - ((fbulk fs : Nat) : Int) < 0) := by omega
    go_enter Try.func4, Try.ntmps4
    go_wp2_with fail
    refine (szSess_any W0 B A n c fs 1048576 (by have := HB0.out.size; omega) HL.out hn (by omega) (by omega)).mono ?_
    rintro e w1 ⟨rfl, hb1⟩
    have HB1 := Lib.hid (HB0.out.trans (hb1.mono HB0.out.size))
    have HK1 := Lib.hid (HK0.out.below hb1 HK0.out.lt)
    have HL1 := Lib.hid (HL.out.below (hb1.mono (by have := HB0.out.size; omega)))
    have z1 : w1.cell? ⟨w.heap.size, 0, none⟩ = some (.slice A n c) := HK1.out.cell 0
    clear hb1 z0 hW0 HK0 HL
    rw [szQ_neg (show ¬ (1048576 : Int) < ((fbulk fs : Nat) : Int) by omega)]
    go_wp2_with fail
    refine (toSess_any w1 B A n c fs (by have := HB1.out.size; omega) HL1.out HM.out).mono ?_
    rintro e w2 ⟨g2, rfl, _, hb2, ho2⟩
    have HB2 := Lib.hid (HB1.out.trans (hb2.mono HB1.out.size))
    have HK2 := Lib.hid (HK1.out.below hb2 HK1.out.lt)
    have HL2 := Lib.hid (HL1.out.below (hb2.mono (by have := HB1.out.size; omega)))
    have HF2 := Lib.hid (ho2.reads HL1.out.1 HM.out)
    clear hb2 z1 HK1 HL1 HB0 HB1 ho2
    go_wp2_with fail
    refine (specSessOk_any w2 w2.heap.size (some ⟨g2, 0, none⟩) n n fs (Nat.le_refl _) HF2.out HM.out).mono ?_
    rintro e w3 ⟨rfl, hb3⟩
    have HB3 := Lib.hid (HB2.out.trans (hb3.mono HB2.out.size))
    have HK3 := Lib.hid (HK2.out.below hb3 HK2.out.lt)
    have HL3 := Lib.hid (HL2.out.below (hb3.mono (by have := HB2.out.size; omega)))
    have z3 : w3.cell? ⟨w.heap.size, 0, none⟩ = some (.slice A n c) := HK3.out.cell 0
    clear hb3 HK2 HL2 HB2 HF2
    go_wp2_with fail
    refine (toSess_any w3 B A n c fs (by have := HB3.out.size; omega) HL3.out HM.out).mono ?_
    rintro e w4 ⟨g4, rfl, _, hb4, ho4⟩
    obtain ⟨W5, hW5⟩ : ∃ W, w4.alloc (.cells #[.slice (some ⟨g4, 0, none⟩) n n] 42) = W := ⟨_, rfl⟩
    have hb5 : Below w4.heap.size w4 W5 := by rw [← hW5]; exact (Below.refl _ _).alloc (Nat.le_refl _) _
    have HB5 := Lib.hid ((HB3.out.trans (hb4.mono HB3.out.size)).trans (hb5.mono (Nat.le_trans HB3.out.size hb4.size)))
    have HK5 := Lib.hid ((HK3.out.below hb4 HK3.out.lt).below hb5 (HK3.out.below hb4 HK3.out.lt).lt)
    have HL5 := Lib.hid ((HL3.out.below (hb4.mono (by have := HB3.out.size; omega))).below (hb5.mono (by have := HB3.out.size; have := hb4.size; omega)))
    have HF5 := Lib.hid (((ho4.reads HL3.out.1 HM.out).below hb5).more hb5.size)
    have HS5 : Hid (Blk W5 w4.heap.size 42 #[.slice (some ⟨g4, 0, none⟩) n n]) := by show Blk _ _ _ _; rw [← hW5]; exact Blk.made _ _ _
    obtain ⟨s4, hs4⟩ : ∃ s, w4.heap.size = s := ⟨_, rfl⟩
    have z5 : W5.cell? ⟨w.heap.size, 0, none⟩ = some (.slice A n c) := HK5.out.cell 0
    rw [hs4] at HS5
    have y5 : W5.cell? ⟨s4, 0, none⟩ = some (.slice (some ⟨g4, 0, none⟩) n n) := HS5.out.cell 0
    clear hb4 hb5 z3 HK3 HL3 HB3 ho4
    go_wp2_with fail
    refine (implSessOk_any W5 W5.heap.size (some ⟨g4, 0, none⟩) n n fs (Nat.le_refl _) HF5.out HM.out).mono ?_
    rintro e w6 ⟨rfl, hb6⟩
    have HB6 := Lib.hid (HB5.out.trans (hb6.mono HB5.out.size))
    have HK6 := Lib.hid (HK5.out.below hb6 HK5.out.lt)
    have HL6 := Lib.hid (HL5.out.below (hb6.mono (by have := HB5.out.size; omega)))
    have HF6 := Lib.hid ((HF5.out.below hb6).more hb6.size)
    have HS6 := Lib.hid (HS5.out.below hb6 HS5.out.lt)
    have y6 : w6.cell? ⟨s4, 0, none⟩ = some (.slice (some ⟨g4, 0, none⟩) n n) := HS6.out.cell 0
    have z6 : w6.cell? ⟨w.heap.size, 0, none⟩ = some (.slice A n c) := HK6.out.cell 0
    have ene : ((sessR fs) != (sessR fs)) = false := by simp
    have HLD : Hid (FrR w6.drew B A n fs) := HL6.out.below ((Below.refl B w6).drew)
    have HFD : Hid (FrR w6.drew w6.drew.heap.size (some ⟨g4, 0, none⟩) n fs) := HF6.out.below ((Below.refl _ w6).drew)
    clear hb6 y5 z5 HK5 HL5 HB5 HF5 HS5 hW5
    go_wp2_with fail
    go_region_held3 (fun w' => w'.cell? ⟨w.heap.size, 0, none⟩ = some (.slice A n c) ∧ w'.cell? ⟨s4, 0, none⟩ = some (.slice (some ⟨g4, 0, none⟩) n n))
      (first
        | go_keep
        | exact ⟨HCD.out.1, HCD.out.2⟩
        | exact ⟨HCC.out.1, HCC.out.2⟩)
      (first
        | (go_at_call 20
           refine (toSess_any w6.drew B A n c fs (by have := HB6.out.size; show B ≤ w6.heap.size; omega) HLD.out HM.out).mono ?_
           rintro e w7 ⟨g7, rfl, _, hb7, ho7⟩
           have HCC : Hid (w7.cell? ⟨w.heap.size, 0, none⟩ = some (.slice A n c) ∧ w7.cell? ⟨s4, 0, none⟩ = some (.slice (some ⟨g4, 0, none⟩) n n)) := ⟨(hb7.cell (p := ⟨w.heap.size, 0, none⟩) HK6.out.lt).trans z6, (hb7.cell (p := ⟨s4, 0, none⟩) HS6.out.lt).trans y6⟩)
        | (go_at_call 22
           refine (eqSess_any w7 w7.heap.size (some ⟨g4, 0, none⟩) (some ⟨g7, 0, none⟩) n n n fs (Nat.le_refl _) ((HFD.out.below hb7).more hb7.size) (ho7.reads HL6.out.1 HM.out) HM.out).mono ?_
           rintro e w8 ⟨rfl, hb8⟩
           have HCD : Hid (w8.cell? ⟨w.heap.size, 0, none⟩ = some (.slice A n c) ∧ w8.cell? ⟨s4, 0, none⟩ = some (.slice (some ⟨g4, 0, none⟩) n n)) := ⟨(hb8.cell (p := ⟨w.heap.size, 0, none⟩) (Nat.lt_of_lt_of_le HK6.out.lt hb7.size)).trans HCC.out.1, (hb8.cell (p := ⟨s4, 0, none⟩) (Nat.lt_of_lt_of_le HS6.out.lt hb7.size)).trans HCC.out.2⟩))
    go_wp2
    go_ret
    exact ⟨rfl, (HB6.out.drew.trans (show Below w.heap.size w6.drew w7 from hb7.mono HB6.out.size)).trans (hb8.mono (Nat.le_trans HB6.out.size hb7.size))⟩
end Go.Proofs.Ytfmhmnpmdjpmeaa

namespace Go.Proofs.Ytfmhmnpmdjpmeaa
open Go.ChangeShapes Go.WideShapes Go.ChangeAt Go.RowKit

theorem own : ownKnob Try.prog.godebug = none := by kernel_rfl
theorem laidOut : laidOutB Try.prog = true := by kernel_rfl
theorem cellsInt : Try.prog.cellsOf 3 = 1 := by kernel_rfl
/-- a world for the witness -/
noncomputable def plainWorld (os : Os) : World := World.holding Try.prog os ⟨#[], #[], []⟩
theorem ints_of_arg {H : Type} {enc : TypeId × Value → H} {W : World} {A : Option Addr} {len cap : Nat} {d : DataW H} {p : List MemPlace}
    (h : DataW.Trod enc Try.prog W 0 (fun _ => true) true 23 (.slice A len cap) d p) : ∃ l, IntR W W.heap.size A len l ∧ (len : Int) ≤ 9223372036854775807 := by
  obtain ⟨fuel, hf⟩ := h
  rcases open_ints Try.underlying23 Try.underlying3 cellsInt hf with ⟨hcs, _⟩ | ⟨a, len', cap', zs, hcs, _, hl, hm, hz, _, hcell, _⟩
  · simp [Value.cells] at hcs
    obtain ⟨rfl, rfl, rfl⟩ := hcs
    exact ⟨[], ⟨rfl, fun h => absurd h (by omega)⟩, by omega⟩
  · simp [Value.cells] at hcs
    obtain ⟨rfl, rfl, rfl⟩ := hcs
    have hzc : zs.length = cap := by simpa using hz
    refine ⟨zs.take len, ⟨by simp; omega, fun h0 => ?_⟩, by unfold maxLen at hm; omega⟩
    obtain ⟨b, off, spot⟩ := a
    have hc0 := hcell 0 (by omega)
    have hspot : spot = none := by simpa [Addr.add] using World.cell?_spot hc0
    subst hspot
    have hadd : ∀ j, (⟨b, off, none⟩ : Addr).add j = ⟨b, off + j, none⟩ := by
      intro j
      unfold Addr.add
      by_cases h : j = 0
      · subst h; rfl
      · rw [if_neg h]
    refine ⟨b, off, rfl, ?_, fun k hk => ?_⟩
    · have := World.block_lt_of_cell? W _ hc0
      simpa [hadd] using this
    · have hc := hcell k (by omega)
      rw [hadd] at hc
      rw [hc]
      simp [List.getD_eq_getElem?_getD, hk]

end Go.Proofs.Ytfmhmnpmdjpmeaa
