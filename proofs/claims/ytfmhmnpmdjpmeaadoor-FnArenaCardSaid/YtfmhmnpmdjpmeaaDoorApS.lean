/- ArenaPut of the model. -/
import Derived.Test.YtfmhmnpmdjpmeaaDoorApI2
import Derived.Test.YtfmhmnpmdjpmeaaDoorAvS
import Derived.Test.YtfmhmnpmdjpmeaaDoorNdOkS

namespace Go.Proofs.YtfmhmnpmdjpmeaaDoor
open Go.RowKit

def findI (l : List Nd) (x : Nd) : Int := if x ∈ l then ((l.idxOf x : Nat) : Int) else -1
theorem idxOf_first {l : List Nd} {x : Nd} {k : Nat} (hk : k < l.length) (hx : l.getD k nd0 = x) (hn : x ∉ l.take k) : x ∈ l ∧ l.idxOf x = k := by
  have he : l = l.take k ++ x :: l.drop (k + 1) := by
    rw [← hx, List.getD_eq_getElem?_getD, List.getElem?_eq_getElem hk]
    simp
  refine ⟨by rw [he]; simp, ?_⟩
  rw [he, List.idxOf_append, if_neg (by simpa using hn), List.idxOf_cons_self]
  simp
  omega
theorem own_short2 {w : World} {base g n c m : Nat} {e : TypeId} {xs : List Value} (h : w.ownsRow base e 1 (.slice (some ⟨g, 0, none⟩) n c) n xs) (hm : m ≤ n) : w.ownsRow base e 1 (.slice (some ⟨g, 0, none⟩) m c) m (xs.take m) := by
  have hl := h.1
  refine ⟨by rw [List.length_take, hl]; omega, ?_⟩
  rcases h.2 with ⟨h0, _⟩ | ⟨g', cap, cur, hv, hb, hgg, h1, h2, h3, h4⟩
  · cases h0
  · injection hv with e1 e2 e3
    injection e1 with e1
    injection e1 with e1
    subst e1; subst e3
    refine .inr ⟨g, c, cur, rfl, hb, hgg, by omega, h2, h3, ?_⟩
    rw [← h4, List.take_take]
    congr 1
    omega
theorem ownI_cap {w : World} {base g n c : Nat} {xs : List Value} (h : w.ownsRow base 3 1 (.slice (some ⟨g, 0, none⟩) n c) n xs) : n ≤ c := by
  rcases h.2 with ⟨h0, _⟩ | ⟨g', cap, cur, hv, _, _, h1, _⟩
  · cases h0
  · injection hv with _ _ h3
    omega
theorem rows_apart2 {w : World} {b1 b2 s1 s2 n1 n2 : Nat} {t1 t2 : TypeId} {v1 v2 : Value} {x1 x2 : List Value} (h1 : w.ownsRow b1 t1 s1 v1 n1 x1) (h2 : w.ownsRow b2 t2 s2 v2 n2 x2) (hne : t1 ≠ t2) : v1.ownBlock = none ∨ v1.ownBlock ≠ v2.ownBlock := by
  cases h : v1.ownBlock with
  | none => exact .inl rfl
  | some b =>
    right
    obtain ⟨cs, hcs⟩ := own_blk h1 b h
    intro e
    exact own_apart h2 hcs (fun x => hne x.symm) e.symm
/-- a stack's row without its upper j -/
theorem own_drop {w : World} {base g m c : Nat} {st : List Int} (h : OwnI w base (some ⟨g, 0, none⟩) m c st.reverse) (hm : st.length = m) (j q : Nat) (hq : m - j = q) : OwnI w base (some ⟨g, 0, none⟩) q c (st.drop j).reverse := by
  have h2 := own_short2 (m := q) h (by omega)
  show World.ownsRow _ _ _ _ _ _ _
  rw [List.reverse_drop, hm, hq, List.map_take]
  exact h2
theorem rev_top (v : Int) (st : List Int) : (v :: st).reverse.getD st.length 0 = v := by simp
theorem rev_next (u v : Int) (st : List Int) : (u :: v :: st).reverse.getD st.length 0 = v := by
  rw [List.reverse_cons, List.getD_eq_getElem?_getD, List.getElem?_append_left (by simp), ← List.getD_eq_getElem?_getD]
  exact rev_top v st
/-- a row of nodes that is read, cell by cell -/
theorem nod_news {w : World} {B n : Nat} {a : Addr} {l : List Nd} (h : NodR w B (some a) n l) : ∀ j u, (nodCells l)[j]? = some u → w.cell? (a.add j) = some u := by
  intro j u hu
  have hj : j < l.length * 4 := by
    have := (List.getElem?_eq_some_iff.1 hu).1
    rwa [nodCells_len] at this
  have hlen := h.1
  obtain ⟨b, off, e, _, hc⟩ := h.2 (by omega)
  injection e with e
  subst e
  have hadd : (⟨b, off, none⟩ : Addr).add j = ⟨b, off + j, none⟩ := by unfold Addr.add; split <;> simp_all
  rw [hadd, ← hu]
  obtain ⟨k, hk⟩ : ∃ k, j = k * 4 ∨ j = k * 4 + 1 ∨ j = k * 4 + 2 ∨ j = k * 4 + 3 := ⟨j / 4, by omega⟩
  have h1 := nodCells_at l k (by omega)
  have h2 := hc k (by omega)
  rcases hk with rfl | rfl | rfl | rfl
  · rw [h1.1]; exact h2.1
  · rw [h1.2.1]; exact h2.2.1
  · rw [h1.2.2.1]; exact h2.2.2.1
  · rw [h1.2.2.2]; exact h2.2.2.2
theorem nod_take {w : World} {base n : Nat} {a : Addr} {v : Value} {l : List Nd} (h : w.ownsRow base 72 4 v (0 + n) (nodCells [] ++ nodCells l)) (hnil : v = .slice none 0 0 ↔ (Value.slice (some a) 0 0 : Value) = .slice none 0 0 ∧ n = 0) : ∃ g c, v = .slice (some ⟨g, 0, none⟩) n c := by
  rcases h.2 with ⟨h0, _⟩ | ⟨g', cap', _, h0, _⟩
  · have := (hnil.1 h0).1
    cases this
  · rw [Nat.zero_add] at h0
    exact ⟨g', cap', h0⟩

set_option maxRecDepth 100000 in
set_option maxHeartbeats 4000000 in
theorem find_any (w : World) (B : Nat) (A : Option Addr) (n c : Nat) (l : List Nd) (o u a z : Int) (hB : B ≤ w.heap.size) (hl : NodR w B A n l) (hn : n ≤ 1048576) :
    Calls Tryd.prog 53 #[.slice A n c, .agg #[.int .i64 o, .int .i64 u, .int .i64 a, .int .i64 z]] w fun e w' => e = .returned (.int .i64 (findI l (o, u, a, z))) ∧ Below w.heap.size w w' := by
  have HL := Lib.hid hl
  obtain ⟨w0, hw0⟩ : ∃ X, w.alloc (.cells #[.int .i64 o, .int .i64 u, .int .i64 a, .int .i64 z] 72) = X := ⟨_, rfl⟩
  have hb0 : Below w.heap.size w w0 := by rw [← hw0]; exact (Below.refl _ _).alloc (Nat.le_refl _) _
  have hbx : Blk w0 w.heap.size 72 #[.int .i64 o, .int .i64 u, .int .i64 a, .int .i64 z] := by rw [← hw0]; exact Blk.made _ _ _
  have HB0 := Lib.hid hb0
  have HBX := Lib.hid hbx
  have hlt0 : w.heap.size < w0.heap.size := hbx.lt
  clear hl hb0 hbx
  go_enter Tryd.func53, Tryd.ntmps53
  go_wp2
  go_loopw [5] (fun i wr => ∃ k : Nat, k ≤ n ∧ i = .int .i64 k ∧ Hid ((o, u, a, z) ∉ l.take k) ∧ Hid (Below w0.heap.size w0 wr)) (fun i _ => n - (intOf i).toNat)
  case atStart => exact ⟨0, Nat.zero_le _, rfl, (by show _ ∉ _; simp), Below.refl _ _⟩
  case round =>
    obtain ⟨k, hk, rfl, HN, HB⟩ := hrel
    by_cases hlt : k < n
    · obtain ⟨b, off, rfl, hb, hc⟩ := HL.out.2 (by omega)
      obtain ⟨y1, y2, y3, y4⟩ := hc k hlt
      obtain ⟨s, hs⟩ : ∃ s, l.getD k nd0 = s := ⟨_, rfl⟩
      rw [hs] at y1 y2 y3 y4
      obtain ⟨o', u', a', z'⟩ := s
      have HS := Lib.hid hs
      have HBW := Lib.hid (HB0.out.trans (HB.out.mono (by omega)))
      have k5 := (HBW.out.cell (p := ⟨b, off + k * 4, none⟩) (by show b < _; omega)).trans y1
      have k6 := (HBW.out.cell (p := ⟨b, off + k * 4 + 1, none⟩) (by show b < _; omega)).trans y2
      have k7 := (HBW.out.cell (p := ⟨b, off + k * 4 + 2, none⟩) (by show b < _; omega)).trans y3
      have k8 := (HBW.out.cell (p := ⟨b, off + k * 4 + 3, none⟩) (by show b < _; omega)).trans y4
      have hbx := HBX.out.below HB.out hlt0
      have k1 := hbx.cell 0
      have k2 := hbx.cell 1
      have k3 := hbx.cell 2
      have k4 := hbx.cell 3
      simp at k1 k2 k3 k4
      have hkn : (k : Int) < n := by omega
      have HBD := Lib.hid HB.out.drew
      have HBWD := Lib.hid HBW.out.drew
      clear y1 y2 y3 y4 hs hbx hc HB HBW
      go_wp2_with fail
      refine region_tail 5 (by kernel_rfl) (by kernel_rfl) ?_
      simp only [List.take_succ_cons, List.take_zero, List.drop_succ_cons, List.drop_zero]
      repeat still_step
      refine wpStill_nil ?_
      by_cases heq : (o', u', a', z') = (o, u, a, z)
      · have HF : Hid (findI l (o, u, a, z) = (k : Int)) := by
          show _ = _
          obtain ⟨h1, h2⟩ := idxOf_first (by rw [HL.out.1]; exact hlt) (HS.out.trans heq) HN.out
          unfold findI
          rw [if_pos h1, h2]
        injection heq with q1 heq
        injection heq with q2 heq
        injection heq with q3 q4
        subst q1; subst q2; subst q3; subst q4
        go_wp2
        go_ret
        exact ⟨by rw [HF.out]; rfl, HBWD.out⟩
      · have HN2 : Hid ((o, u, a, z) ∉ l.take (k + 1)) := by
          show _ ∉ _
          rw [take_succ_getD (by rw [HL.out.1]; exact hlt), HS.out, List.mem_append, List.mem_singleton]
          rintro (h | h)
          · exact HN.out h
          · exact heq h.symm
        have HE := Lib.hid heq
        clear heq
        go_wp2
        all_goals first
          | exact ⟨⟨k + 1, by omega, by go_num, HN2.out, HBD.out⟩, by simp [intOf]; omega⟩
          | (exfalso; apply HE.out; simp [*]; done)
    · obtain rfl : k = n := by omega
      have HF : Hid (findI l (o, u, a, z) = -1) := by
        show _ = _
        have h := HN.out
        rw [List.take_of_length_le (by rw [HL.out.1]; exact Nat.le_refl _)] at h
        unfold findI
        rw [if_neg h]
      have HBW := Lib.hid (HB0.out.trans (HB.out.mono (by omega)))
      clear HB
      go_wp2
      go_ret
      exact ⟨by rw [HF.out]; rfl, HBW.out⟩

set_option maxRecDepth 100000 in
set_option maxHeartbeats 8000000 in
theorem specAPut_any (w : World) (B : Nat) (a : Addr) (n c : Nat) (ns : List Nd) (B2 : Nat) (A2 : Option Addr) (n2 c2 : Nat) (l : List (Int × Int)) (hB : B ≤ w.heap.size) (hl : NodR w B (some a) n ns) (hn : n ≤ 1048576)
    (hB2 : B2 ≤ w.heap.size) (hl2 : TokR w B2 A2 n2 l) (hn2 : n2 ≤ 1048576) :
    Calls Tryd.prog 13 #[.slice (some a) n c, .slice A2 n2 c2] w (PutOut w (putOk ns l) (putNs ns l) (putIx ns l)) := by
  have HL := Lib.hid hl
  have HL2 := Lib.hid hl2
  have HN0 : Hid (∀ w', OwnN w' w.heap.size none 0 0 []) := fun w' => World.ownsRow_nil _ _ _ _
  have hl0 := hl
  clear hl hl2
  go_enter Tryd.func13, Tryd.ntmps13
  go_wp2_with fail
  refine (specArenaOk_any w B (some a) n c ns hB hl0 hn).mono ?_
  rintro e w1 ⟨rfl, hb1⟩
  have HB1 := Lib.hid hb1
  have hs1 := hb1.size
  clear hl0 hb1
  cases hok : arenaOkR ns with
  | false =>
    have HP : Hid (putOk ns l = false) := by show _ = _; unfold putOk; rw [hok]; rfl
    clear hok
    go_wp2
    go_ret3
    rw [HP.out, (putOk_no HP.out).1, (putOk_no HP.out).2]
    exact ⟨none, 0, rfl, HN0.out _, HB1.out⟩
  | true =>
    have HAO := Lib.hid hok
    have ht1 := HL2.out.below (HB1.out.mono hB2)
    clear hok
    go_wp2_with fail
    refine (specOk_any w1 B2 A2 n2 c2 l (by omega) ht1 (by omega)).mono ?_
    rintro e w2 ⟨rfl, hb2⟩
    have HB2 := Lib.hid (HB1.out.trans (hb2.mono hs1))
    have hs2 : w.heap.size ≤ w2.heap.size := HB2.out.size
    clear hb2 ht1 HB1
    cases hlv : Lv.levelOk l with
    | false =>
      have HP : Hid (putOk ns l = false) := by show _ = _; unfold putOk; rw [hlv, Bool.and_false]; rfl
      clear hlv
      go_wp2
      go_ret3
      rw [HP.out, (putOk_no HP.out).1, (putOk_no HP.out).2]
      exact ⟨none, 0, rfl, HN0.out _, HB2.out⟩
    | true =>
      have HLV := Lib.hid hlv
      have hnl : l.length = n2 := HL2.out.1
      have h24 : n2 ≤ 24 := by
        have h := hlv
        simp only [Lv.levelOk, Bool.and_eq_true, decide_eq_true_eq] at h
        omega
      have hns : ns.length = n := HL.out.1
      have hn200 : n ≤ 200 := by
        have h := HAO.out
        unfold arenaOkR at h
        rw [Bool.and_eq_true, decide_eq_true_eq] at h
        omega
      clear hlv
      obtain ⟨j0, ji, jz0, jz1, jz2⟩ := info_parts info_int
      obtain ⟨i0, hi, hz0, hz1, hz2⟩ := info_parts info_nod
      have hnr : NodR (w2.alloc (.cells #[] 72)) B (some a) n ns := (HL.out.below (HB2.out.mono hB)).below (((Below.refl _ _).alloc (Nat.le_refl _) _).mono (by omega))
      have hnews := nod_news hnr
      have hnl4 : (nodCells ns).length = n * 4 := by rw [nodCells_len, hns]
      have HOE : Hid (OwnN (w2.alloc (.cells #[] 72)) w.heap.size (some ⟨w2.heap.size, 0, none⟩) 0 0 []) := World.ownsRow_made w2 #[] 0 hs2 (by simp [maxLen]) (by simp)
      have hoe := HOE.out
      clear hnr
      go_wp2_with (at_builtin; refine wpList_append_own _ rfl (.tmp 22) (.tmp 23) 26 rfl w.heap.size 72 i0 (.agg #[.int .i64 0, .int .i64 0, .int .i64 0, .int .i64 0]) 4 32 Tryd.underlying26 hi hz0 hz1 hz2 rfl (by decide) (.slice (some ⟨w2.heap.size, 0, none⟩) 0 0) 0 (nodCells []) rfl hoe a n c (nodCells ns) rfl hnl4 hnews (nodCells_one _) (by unfold maxLen; omega) (by omega) (by simp; omega) ?_; intro v' w3 hown' hgrow hnil)
      obtain ⟨g3, c3, rfl⟩ := nod_take hown' hnil
      have HO3 : Hid (OwnN w3 w.heap.size (some ⟨g3, 0, none⟩) n c3 ns) := by
        show World.ownsRow _ _ _ _ _ _ _
        rw [show nodCells ns = nodCells [] ++ nodCells ns from rfl, ← Nat.zero_add n]
        simpa using hown'
      have HB3 : Hid (Below w.heap.size w w3) := (HB2.out.alloc hs2 _).grown hgrow (by simp; omega) (fun k h => (hoe.lt k h).1)
      have hs3 : w.heap.size ≤ w3.heap.size := HB3.out.size
      have HPL : Hid (OwnI (w3.alloc (.cells #[] 3)) w.heap.size (some ⟨w3.heap.size, 0, none⟩) 0 0 []) := World.ownsRow_made w3 #[] 0 hs3 (by simp [maxLen]) (by simp)
      have hbp : Below w3.heap.size w3 (w3.alloc (.cells #[] 3)) := (Below.refl _ _).alloc (Nat.le_refl _) _
      have HO4 : Hid (OwnN (w3.alloc (.cells #[] 3)) w.heap.size (some ⟨g3, 0, none⟩) n c3 ns) := own_below' HO3.out hbp
      have HB4 := Lib.hid (HB3.out.trans (hbp.mono hs3))
      clear hown' hgrow hnil hoe HOE hnews HO3 HB3 hbp HB2
      go_wp2
      go_loopw [7, 8, 9] (fun o p i wr => ∃ (k N m go co gp cp : Nat), k ≤ n2 ∧ i = .int .i64 k ∧ o = .slice (some ⟨go, 0, none⟩) N co ∧ p = .slice (some ⟨gp, 0, none⟩) m cp ∧ Hid ((putTo ns l k).1.length = N) ∧ Hid ((putTo ns l k).2.length = m) ∧ Hid (OwnN wr w.heap.size (some ⟨go, 0, none⟩) N co (putTo ns l k).1) ∧ Hid (OwnI wr w.heap.size (some ⟨gp, 0, none⟩) m cp (putTo ns l k).2.reverse) ∧ Hid (Below w.heap.size w wr)) (fun _ _ i _ => n2 - (intOf i).toNat)
      case atStart => exact ⟨0, n, 0, g3, c3, w3.heap.size, 0, by omega, rfl, rfl, rfl, hns, rfl, HO4.out, HPL.out, HB4.out⟩
      case round =>
        clear HO4 HPL HB4
        obtain ⟨k, N, m, go, co, gp, cp, hk, rfl, rfl, rfl, HN, HM, HO, HP, HB⟩ := hrel
        have hsr := HB.out.size
        have hlen := put_len ns l k
        rw [HN.out, HM.out] at hlen
        obtain ⟨hl1, hl2, hl3⟩ := hlen
        by_cases hlt : k < n2
        · obtain ⟨b, off, rfl, hb, hc⟩ := HL2.out.2 (by omega)
          obtain ⟨c1, c2'⟩ := hc k hlt
          obtain ⟨t, ht⟩ : ∃ t, l.getD k (0, 0) = t := ⟨_, rfl⟩
          have hst := put_step (ns := ns) HLV.out (k := k) (by omega)
          have hto : putTo ns l (k + 1) = putS (putTo ns l k).1 (putTo ns l k).2 (l.getD k (0, 0)) := rfl
          rw [ht] at c1 c2' hst hto
          generalize putTo ns l k = S at HN HM HO HP hst hto
          obtain ⟨ns1, st⟩ := S
          obtain ⟨op, Z⟩ := t
          simp only at HN HM HO HP hst hto
          obtain ⟨htk, hst⟩ := hst
          have hop := Lv.tk_cases htk
          simp only at hop
          have d1 := (HB.out.cell (p := ⟨b, off + k * 2, none⟩) (by show b < _; omega)).trans c1
          have d2 := (HB.out.cell (p := ⟨b, off + k * 2 + 1, none⟩) (by show b < _; omega)).trans c2'
          have HTO := Lib.hid hto
          have hgo : go < wr.heap.size := (HO.out.lt go rfl).2
          have hgp : gp < wr.heap.size := (HP.out.lt gp rfl).2
          obtain ⟨Wn, hWn⟩ : ∃ X, (wr.alloc (.cells #[.int .i64 op, .int .i64 Z, .int .i64 (-1), .int .i64 (-1)] 72)).drew = X := ⟨_, rfl⟩
          have hbn : Below wr.heap.size wr Wn := by rw [← hWn]; exact ((Below.refl _ _).alloc (Nat.le_refl _) _).drew
          have HNN : Hid (Blk Wn wr.heap.size 72 #[.int .i64 op, .int .i64 Z, .int .i64 (-1), .int .i64 (-1)]) := by
            show Blk _ _ _ _
            rw [← hWn]
            exact (Blk.made wr 72 #[.int .i64 op, .int .i64 Z, .int .i64 (-1), .int .i64 (-1)] :)
          have HBN := Lib.hid (HB.out.trans (hbn.mono hsr))
          have HON : Hid (OwnN Wn w.heap.size (some ⟨go, 0, none⟩) N co ns1) := own_below' HO.out hbn
          have HPN : Hid (OwnI Wn w.heap.size (some ⟨gp, 0, none⟩) m cp st.reverse) := own_below' HP.out hbn
          have t1 := (hbn.cell (p := ⟨b, off + k * 2, none⟩) (by show b < _; omega)).trans d1
          have hcap := ownI_cap HP.out
          have hbwr : b < wr.heap.size := by omega
          have d1a : ∀ X, (wr.alloc X).cell? ⟨b, off + k * 2, none⟩ = some (.int .i64 op) := fun X => (((Below.refl wr.heap.size wr).alloc (Nat.le_refl _) X).cell (p := ⟨b, off + k * 2, none⟩) hbwr).trans d1
          have d2a : ∀ X, (wr.alloc X).cell? ⟨b, off + k * 2 + 1, none⟩ = some (.int .i64 Z) := fun X => (((Below.refl wr.heap.size wr).alloc (Nat.le_refl _) X).cell (p := ⟨b, off + k * 2 + 1, none⟩) hbwr).trans d2
          have hkn : (k : Int) < n2 := by omega
          clear c1 c2' hc ht hbn htk HO HP hto
          have hop3 : (op = 0 ∨ op = 4) ∨ op = 1 ∨ (op = 2 ∨ op = 3) := by omega
          clear hop
          go_wp2_with fail
          go_region
          rcases hop3 with h0 | h1 | h2
          · obtain ⟨hx, -, -, hD⟩ := put_no (N := Z) (st := st) h0
            have HX := Lib.hid hx
            have HDS : Hid (st.drop (tkN op) = st) := by show _ = _; rw [hD]; rfl
            have htk : Lv.takes op = 0 := by rw [takes_tkN, hD]; rfl
            have HTK := Lib.hid htk
            have hN1 : N ≤ 1048576 := by omega
            clear hx hD htk h0 hst
            have hnn := HNN.out
            have y0 := hnn.cell 0
            have y1 := hnn.cell 1
            have y2 := hnn.cell 2
            have y3 := hnn.cell 3
            simp at y0 y1 y2 y3
            clear hnn
            go_wp2_with fail
            refine (takes_any op _).mono ?_
            rintro e w' ⟨rfl, rfl⟩
            rw [HTK.out]
            have hbl3 := HNN.out.lt
            go_wp2_with fail
            refine (find_any Wn Wn.heap.size (some ⟨go, 0, none⟩) N co ns1 op Z (-1) (-1) (Nat.le_refl _) (OwnN.reads HON.out) hN1).mono ?_
            rintro e w4 ⟨rfl, hb4⟩
            have hn4 := HNN.out.below hb4 hbl3
            have HO4 : Hid (OwnN w4 w.heap.size (some ⟨go, 0, none⟩) N co ns1) := own_below' HON.out hb4
            have HPC : Hid (OwnI w4 w.heap.size (some ⟨gp, 0, none⟩) m cp st.reverse) := own_below' HPN.out hb4
            have HB4 := Lib.hid (HBN.out.trans (hb4.mono HBN.out.size))
            clear hb4 HON HPN HBN HNN hbl3
            by_cases hmem : (op, Z, -1, -1) ∈ ns1
            · obtain ⟨ix, hix⟩ : ∃ ix : Nat, ns1.idxOf (op, Z, -1, -1) = ix := ⟨_, rfl⟩
              have HIX := Lib.hid hix
              have HADD : Hid (addNd ns1 (op, Z, -1, -1) = ns1) := by show _ = _; unfold addNd; rw [if_pos hmem]
              rw [show findI ns1 (op, Z, -1, -1) = (ix : Int) by unfold findI; rw [if_pos hmem, hix]]
              have HOC := HO4
              have HBC := HB4
              clear hmem hix hn4 HO4 HB4
              have hd : OwnI w4 w.heap.size (some ⟨gp, 0, none⟩) m cp st.reverse := own_drop HPC.out HM.out 0 m (by omega)
              have hsw : w.heap.size ≤ w4.heap.size := HBC.out.size
              go_wp2_with (at_builtin; refine wpList_append_own _ rfl (.tmp 82) (.tmp 84) 40 rfl w.heap.size 3 j0 (.int .i64 0) 1 8 Tryd.underlying40 ji jz0 jz1 jz2 rfl (by decide) (.slice (some ⟨gp, 0, none⟩) m cp) m (st.reverse.map (Value.int .i64)) rfl (World.ownsRow.alloc hd _) ⟨w4.heap.size, 0, none⟩ 1 1 [.int .i64 ix] rfl rfl (cell_one_new _ _ _) (fun u hu => by simp at hu; subst hu; rfl) (by unfold maxLen; omega) (by omega) (by simp; omega) ?_; intro v' w6 hown' hgrow _)
              obtain ⟨g6, c6, rfl⟩ := int_more' hown'
              have hp6 : OwnI w6 w.heap.size (some ⟨g6, 0, none⟩) (m + 1) c6 ((putTo ns l (k + 1)).2.reverse) := by
                show World.ownsRow _ _ _ _ _ _ _
                rw [HTO.out]
                unfold putS
                simp only
                rw [HX.out, HDS.out, HIX.out]
                simpa using hown'
              have hb6 : Below w.heap.size w w6 := (HBC.out.alloc hsw _).grown hgrow (by simp; omega) (fun k h => (hd.lt k h).1)
              have ho6 : OwnN w6 w.heap.size (some ⟨go, 0, none⟩) N co (putTo ns l (k + 1)).1 := by
                show World.ownsRow _ _ _ _ _ _ _
                rw [HTO.out]
                unfold putS
                simp only
                rw [HX.out, HADD.out]
                exact (World.ownsRow.alloc HOC.out _).kept hgrow (rows_apart2 HOC.out hd (by decide))
              have HP6 := Lib.hid hp6
              have HO6 := Lib.hid ho6
              have HB6 := Lib.hid hb6
              have HN6 : Hid ((putTo ns l (k + 1)).1.length = N) := (OwnN.reads ho6).1
              have HM6 : Hid ((putTo ns l (k + 1)).2.length = m + 1) := by
                have h := hp6.1
                simp at h
                show _ = _
                omega
              clear hown' hgrow hd hp6 hb6 ho6 HPC HOC HBC
              go_wp2
              go_roundw
              case rel => exact ⟨k + 1, N, m + 1, go, co, g6, c6, by omega, by go_num, rfl, rfl, HN6.out, HM6.out, HO6.out, HP6.out, HB6.out⟩
              case measure => simp [intOf]; omega
            · have HIX : Hid (ns1.idxOf (op, Z, -1, -1) = N) := by show _ = _; rw [List.idxOf_eq_length hmem]; exact HN.out
              have HADD : Hid (addNd ns1 (op, Z, -1, -1) = ns1 ++ [(op, Z, -1, -1)]) := by show _ = _; unfold addNd; rw [if_neg hmem]
              rw [show findI ns1 (op, Z, -1, -1) = -1 by unfold findI; rw [if_neg hmem]]
              have j0' := hn4.cell 0
              have j1' := hn4.cell 1
              have j2' := hn4.cell 2
              have j3' := hn4.cell 3
              simp at j0' j1' j2' j3'
              have hown := HO4.out
              have hsz4 : w.heap.size ≤ w4.heap.size := HB4.out.size
              clear hmem hn4
              go_wp2_with (at_builtin; first
                | (refine wpList_append_own _ rfl (.tmp 74) (.tmp 76) 26 rfl w.heap.size 72 i0 (.agg #[.int .i64 0, .int .i64 0, .int .i64 0, .int .i64 0]) 4 32 Tryd.underlying26 hi hz0 hz1 hz2 rfl (by decide) (.slice (some ⟨go, 0, none⟩) N co) N (nodCells ns1) rfl (World.ownsRow.alloc hown _) ⟨w4.heap.size, 0, none⟩ 1 1 (nodCells [(op, Z, -1, -1)]) rfl rfl (nod_blk (Blk.made _ _ _)) (nodCells_one _) (by unfold maxLen; omega) (by omega) (by simp; omega) ?_
                   intro v' w5 hown' hgrow _
                   obtain ⟨g5, c5, rfl⟩ := nod_more hown'
                   have HOC : Hid (OwnN w5 w.heap.size (some ⟨g5, 0, none⟩) (N + 1) c5 (ns1 ++ [(op, Z, -1, -1)])) := nod_snoc hown'
                   have HPC5 : Hid (OwnI w5 w.heap.size (some ⟨gp, 0, none⟩) m cp st.reverse) := (World.ownsRow.alloc HPC.out _).kept hgrow (rows_apart2 HPC.out hown (by decide))
                   have HBC : Hid (Below w.heap.size w w5) := (HB4.out.alloc hsz4 _).grown hgrow (by simp; omega) (fun k h => (hown.lt k h).1)
                   clear hown hown' hgrow HPC HO4 HB4 j0' j1' j2' j3'
                   have HPC := HPC5
                   clear HPC5)
                | (have hd : OwnI w5 w.heap.size (some ⟨gp, 0, none⟩) m cp st.reverse := own_drop HPC.out HM.out 0 m (by omega)
                   have hsw : w.heap.size ≤ w5.heap.size := HBC.out.size
                   refine wpList_append_own _ rfl (.tmp 82) (.tmp 84) 40 rfl w.heap.size 3 j0 (.int .i64 0) 1 8 Tryd.underlying40 ji jz0 jz1 jz2 rfl (by decide) (.slice (some ⟨gp, 0, none⟩) m cp) m (st.reverse.map (Value.int .i64)) rfl (World.ownsRow.alloc hd _) ⟨w5.heap.size, 0, none⟩ 1 1 [.int .i64 N] rfl rfl (cell_one_new _ _ _) (fun u hu => by simp at hu; subst hu; rfl) (by unfold maxLen; omega) (by omega) (by simp; omega) ?_
                   intro v' w6 hown' hgrow _))
              obtain ⟨g6, c6, rfl⟩ := int_more' hown'
              have hp6 : OwnI w6 w.heap.size (some ⟨g6, 0, none⟩) (m + 1) c6 ((putTo ns l (k + 1)).2.reverse) := by
                show World.ownsRow _ _ _ _ _ _ _
                rw [HTO.out]
                unfold putS
                simp only
                rw [HX.out, HDS.out, HIX.out]
                simpa using hown'
              have hb6 : Below w.heap.size w w6 := (HBC.out.alloc hsw _).grown hgrow (by simp; omega) (fun k h => (hd.lt k h).1)
              have ho6 : OwnN w6 w.heap.size (some ⟨g5, 0, none⟩) (N + 1) c5 (putTo ns l (k + 1)).1 := by
                show World.ownsRow _ _ _ _ _ _ _
                rw [HTO.out]
                unfold putS
                simp only
                rw [HX.out, HADD.out]
                exact (World.ownsRow.alloc HOC.out _).kept hgrow (rows_apart2 HOC.out hd (by decide))
              have HP6 := Lib.hid hp6
              have HO6 := Lib.hid ho6
              have HB6 := Lib.hid hb6
              have HN6 : Hid ((putTo ns l (k + 1)).1.length = (N + 1)) := (OwnN.reads ho6).1
              have HM6 : Hid ((putTo ns l (k + 1)).2.length = m + 1) := by
                have h := hp6.1
                simp at h
                show _ = _
                omega
              clear hown' hgrow hd hp6 hb6 ho6 HPC HOC HBC
              go_wp2
              go_roundw
              case rel => exact ⟨k + 1, (N + 1), m + 1, g5, c5, g6, c6, by omega, by go_num, rfl, rfl, HN6.out, HM6.out, HO6.out, HP6.out, HB6.out⟩
              case measure => simp [intOf]; omega
          · subst h1
            obtain ⟨v, st1, rfl⟩ : ∃ v st1, st = v :: st1 := by
              match st, hst with
              | v :: st1, _ => exact ⟨v, st1, rfl⟩
            have HX : Hid (putNd (1, Z) (v :: st1) = (1, Z, -1, v)) := rfl
            have HDS : Hid ((v :: st1).drop (tkN 1) = st1) := rfl
            have hN1 : N ≤ 1048576 := by omega
            obtain ⟨p, hp⟩ : ∃ p, st1.length = p := ⟨_, rfl⟩
            have hmp : m = p + 1 := by have h := HM.out; simp only [List.length_cons] at h; omega
            have HPL : Hid (st1.length = p) := hp
            have hsub : (m : Int) - 1 = (p : Int) := by omega
            have hpm : p < m := by omega
            have hpc : p ≤ cp := by omega
            clear hst hp hmp
            have hnn := HNN.out
            have y0 := hnn.cell 0
            have y1 := hnn.cell 1
            have y2 := hnn.cell 2
            have y3 := hnn.cell 3
            simp at y0 y1 y2 y3
            clear hnn
            go_wp2_with fail
            refine (takes_any 1 _).mono ?_
            rintro e w' ⟨rfl, rfl⟩
            rw [show Lv.takes 1 = 1 from rfl]
            have eN : Wn.cell? ⟨gp, p, none⟩ = some (.int .i64 v) := by
              have h := ownI_spot HPN.out (i := p) (by omega)
              rw [← HPL.out, rev_top, HPL.out] at h
              exact h
            have hnN := HNN.out
            have fN := hnN.thawed 3
            have cN := hnN.cell 3
            simp at cN
            obtain ⟨W2, hWN⟩ : ∃ X, Wn.setCell ⟨wr.heap.size, 3, none⟩ (.int .i64 v) = X := ⟨_, rfl⟩
            have HN2 : Hid (Blk W2 wr.heap.size 72 #[.int .i64 (1), .int .i64 Z, .int .i64 (-1), .int .i64 v]) := by
              show Blk _ _ _ _
              rw [← hWN]
              exact hnN.put 3 (.int .i64 v)
            have HO2 : Hid (OwnN W2 w.heap.size (some ⟨go, 0, none⟩) N co ns1) := by
              show OwnN _ _ _ _ _ _
              rw [← hWN]
              exact own_store HON.out (p := ⟨wr.heap.size, 3, none⟩) (by simp [Value.ownBlock]; omega) _
            have HP2 : Hid (OwnI W2 w.heap.size (some ⟨gp, 0, none⟩) m cp (v :: st1).reverse) := by
              show OwnI _ _ _ _ _ _
              rw [← hWN]
              exact own_store HPN.out (p := ⟨wr.heap.size, 3, none⟩) (by simp [Value.ownBlock]; omega) _
            have HB2 : Hid (Below w.heap.size w W2) := by
              show Below _ _ _
              rw [← hWN]
              exact HBN.out.setCell (p := ⟨wr.heap.size, 3, none⟩) hsr _
            have hn2x := HN2.out
            have y20 := hn2x.cell 0
            have y21 := hn2x.cell 1
            have y22 := hn2x.cell 2
            have y23 := hn2x.cell 3
            simp at y20 y21 y22 y23
            clear hnN HNN HON HPN HBN hn2x
            have hbl3 := HN2.out.lt
            go_wp2_with fail
            refine (find_any W2 W2.heap.size (some ⟨go, 0, none⟩) N co ns1 (1) Z (-1) v (Nat.le_refl _) (OwnN.reads HO2.out) hN1).mono ?_
            rintro e w4 ⟨rfl, hb4⟩
            have hn4 := HN2.out.below hb4 hbl3
            have HO4 : Hid (OwnN w4 w.heap.size (some ⟨go, 0, none⟩) N co ns1) := own_below' HO2.out hb4
            have HPC : Hid (OwnI w4 w.heap.size (some ⟨gp, 0, none⟩) m cp (v :: st1).reverse) := own_below' HP2.out hb4
            have HB4 := Lib.hid (HB2.out.trans (hb4.mono HB2.out.size))
            clear hb4 HO2 HP2 HB2 HN2 hbl3
            by_cases hmem : (1, Z, -1, v) ∈ ns1
            · obtain ⟨ix, hix⟩ : ∃ ix : Nat, ns1.idxOf (1, Z, -1, v) = ix := ⟨_, rfl⟩
              have HIX := Lib.hid hix
              have HADD : Hid (addNd ns1 (1, Z, -1, v) = ns1) := by show _ = _; unfold addNd; rw [if_pos hmem]
              rw [show findI ns1 (1, Z, -1, v) = (ix : Int) by unfold findI; rw [if_pos hmem, hix]]
              have HOC := HO4
              have HBC := HB4
              clear hmem hix hn4 HO4 HB4
              have hd : OwnI w4 w.heap.size (some ⟨gp, 0, none⟩) p cp st1.reverse := own_drop HPC.out HM.out 1 p (by omega)
              have hsw : w.heap.size ≤ w4.heap.size := HBC.out.size
              go_wp2_with (at_builtin; refine wpList_append_own _ rfl (.tmp 82) (.tmp 84) 40 rfl w.heap.size 3 j0 (.int .i64 0) 1 8 Tryd.underlying40 ji jz0 jz1 jz2 rfl (by decide) (.slice (some ⟨gp, 0, none⟩) p cp) p (st1.reverse.map (Value.int .i64)) rfl (World.ownsRow.alloc hd _) ⟨w4.heap.size, 0, none⟩ 1 1 [.int .i64 ix] rfl rfl (cell_one_new _ _ _) (fun u hu => by simp at hu; subst hu; rfl) (by unfold maxLen; omega) (by omega) (by simp; omega) ?_; intro v' w6 hown' hgrow _)
              obtain ⟨g6, c6, rfl⟩ := int_more' hown'
              have hp6 : OwnI w6 w.heap.size (some ⟨g6, 0, none⟩) (p + 1) c6 ((putTo ns l (k + 1)).2.reverse) := by
                show World.ownsRow _ _ _ _ _ _ _
                rw [HTO.out]
                unfold putS
                simp only
                rw [HX.out, HDS.out, HIX.out]
                simpa using hown'
              have hb6 : Below w.heap.size w w6 := (HBC.out.alloc hsw _).grown hgrow (by simp; omega) (fun k h => (hd.lt k h).1)
              have ho6 : OwnN w6 w.heap.size (some ⟨go, 0, none⟩) N co (putTo ns l (k + 1)).1 := by
                show World.ownsRow _ _ _ _ _ _ _
                rw [HTO.out]
                unfold putS
                simp only
                rw [HX.out, HADD.out]
                exact (World.ownsRow.alloc HOC.out _).kept hgrow (rows_apart2 HOC.out hd (by decide))
              have HP6 := Lib.hid hp6
              have HO6 := Lib.hid ho6
              have HB6 := Lib.hid hb6
              have HN6 : Hid ((putTo ns l (k + 1)).1.length = N) := (OwnN.reads ho6).1
              have HM6 : Hid ((putTo ns l (k + 1)).2.length = p + 1) := by
                have h := hp6.1
                simp at h
                show _ = _
                omega
              clear hown' hgrow hd hp6 hb6 ho6 HPC HOC HBC
              go_wp2
              go_roundw
              case rel => exact ⟨k + 1, N, p + 1, go, co, g6, c6, by omega, by go_num, rfl, rfl, HN6.out, HM6.out, HO6.out, HP6.out, HB6.out⟩
              case measure => simp [intOf]; omega
            · have HIX : Hid (ns1.idxOf (1, Z, -1, v) = N) := by show _ = _; rw [List.idxOf_eq_length hmem]; exact HN.out
              have HADD : Hid (addNd ns1 (1, Z, -1, v) = ns1 ++ [(1, Z, -1, v)]) := by show _ = _; unfold addNd; rw [if_neg hmem]
              rw [show findI ns1 (1, Z, -1, v) = -1 by unfold findI; rw [if_neg hmem]]
              have j0' := hn4.cell 0
              have j1' := hn4.cell 1
              have j2' := hn4.cell 2
              have j3' := hn4.cell 3
              simp at j0' j1' j2' j3'
              have hown := HO4.out
              have hsz4 : w.heap.size ≤ w4.heap.size := HB4.out.size
              clear hmem hn4
              go_wp2_with (at_builtin; first
                | (refine wpList_append_own _ rfl (.tmp 74) (.tmp 76) 26 rfl w.heap.size 72 i0 (.agg #[.int .i64 0, .int .i64 0, .int .i64 0, .int .i64 0]) 4 32 Tryd.underlying26 hi hz0 hz1 hz2 rfl (by decide) (.slice (some ⟨go, 0, none⟩) N co) N (nodCells ns1) rfl (World.ownsRow.alloc hown _) ⟨w4.heap.size, 0, none⟩ 1 1 (nodCells [(1, Z, -1, v)]) rfl rfl (nod_blk (Blk.made _ _ _)) (nodCells_one _) (by unfold maxLen; omega) (by omega) (by simp; omega) ?_
                   intro v' w5 hown' hgrow _
                   obtain ⟨g5, c5, rfl⟩ := nod_more hown'
                   have HOC : Hid (OwnN w5 w.heap.size (some ⟨g5, 0, none⟩) (N + 1) c5 (ns1 ++ [(1, Z, -1, v)])) := nod_snoc hown'
                   have HPC5 : Hid (OwnI w5 w.heap.size (some ⟨gp, 0, none⟩) m cp (v :: st1).reverse) := (World.ownsRow.alloc HPC.out _).kept hgrow (rows_apart2 HPC.out hown (by decide))
                   have HBC : Hid (Below w.heap.size w w5) := (HB4.out.alloc hsz4 _).grown hgrow (by simp; omega) (fun k h => (hown.lt k h).1)
                   clear hown hown' hgrow HPC HO4 HB4 j0' j1' j2' j3'
                   have HPC := HPC5
                   clear HPC5)
                | (have hd : OwnI w5 w.heap.size (some ⟨gp, 0, none⟩) p cp st1.reverse := own_drop HPC.out HM.out 1 p (by omega)
                   have hsw : w.heap.size ≤ w5.heap.size := HBC.out.size
                   refine wpList_append_own _ rfl (.tmp 82) (.tmp 84) 40 rfl w.heap.size 3 j0 (.int .i64 0) 1 8 Tryd.underlying40 ji jz0 jz1 jz2 rfl (by decide) (.slice (some ⟨gp, 0, none⟩) p cp) p (st1.reverse.map (Value.int .i64)) rfl (World.ownsRow.alloc hd _) ⟨w5.heap.size, 0, none⟩ 1 1 [.int .i64 N] rfl rfl (cell_one_new _ _ _) (fun u hu => by simp at hu; subst hu; rfl) (by unfold maxLen; omega) (by omega) (by simp; omega) ?_
                   intro v' w6 hown' hgrow _))
              obtain ⟨g6, c6, rfl⟩ := int_more' hown'
              have hp6 : OwnI w6 w.heap.size (some ⟨g6, 0, none⟩) (p + 1) c6 ((putTo ns l (k + 1)).2.reverse) := by
                show World.ownsRow _ _ _ _ _ _ _
                rw [HTO.out]
                unfold putS
                simp only
                rw [HX.out, HDS.out, HIX.out]
                simpa using hown'
              have hb6 : Below w.heap.size w w6 := (HBC.out.alloc hsw _).grown hgrow (by simp; omega) (fun k h => (hd.lt k h).1)
              have ho6 : OwnN w6 w.heap.size (some ⟨g5, 0, none⟩) (N + 1) c5 (putTo ns l (k + 1)).1 := by
                show World.ownsRow _ _ _ _ _ _ _
                rw [HTO.out]
                unfold putS
                simp only
                rw [HX.out, HADD.out]
                exact (World.ownsRow.alloc HOC.out _).kept hgrow (rows_apart2 HOC.out hd (by decide))
              have HP6 := Lib.hid hp6
              have HO6 := Lib.hid ho6
              have HB6 := Lib.hid hb6
              have HN6 : Hid ((putTo ns l (k + 1)).1.length = (N + 1)) := (OwnN.reads ho6).1
              have HM6 : Hid ((putTo ns l (k + 1)).2.length = p + 1) := by
                have h := hp6.1
                simp at h
                show _ = _
                omega
              clear hown' hgrow hd hp6 hb6 ho6 HPC HOC HBC
              go_wp2
              go_roundw
              case rel => exact ⟨k + 1, (N + 1), p + 1, g5, c5, g6, c6, by omega, by go_num, rfl, rfl, HN6.out, HM6.out, HO6.out, HP6.out, HB6.out⟩
              case measure => simp [intOf]; omega
          · obtain ⟨vb, va, st2, rfl⟩ : ∃ vb va st2, st = vb :: va :: st2 := by
              have hD2 : tkN op = 2 := by rcases h2 with rfl | rfl <;> rfl
              rw [hD2] at hst
              match st, hst with
              | vb :: va :: st2, _ => exact ⟨vb, va, st2, rfl⟩
            obtain ⟨hx, -, -, hD⟩ := put_two (N := Z) (a := va) (b := vb) (st := st2) h2
            have HX := Lib.hid hx
            have HDS : Hid ((vb :: va :: st2).drop (tkN op) = st2) := by show _ = _; rw [hD]; rfl
            have htk : Lv.takes op = 2 := by rw [takes_tkN, hD]; rfl
            have HTK := Lib.hid htk
            have hN1 : N ≤ 1048576 := by omega
            obtain ⟨q, hq⟩ : ∃ q, st2.length = q := ⟨_, rfl⟩
            obtain ⟨p, hp⟩ : ∃ p, (va :: st2).length = p := ⟨_, rfl⟩
            have hmp : m = q + 2 := by have h := HM.out; simp only [List.length_cons] at h; omega
            have hpq : p = q + 1 := by simp only [List.length_cons] at hp; omega
            have HPL : Hid ((va :: st2).length = p) := hp
            have HQL : Hid (st2.length = q) := hq
            have hsub : (m : Int) - 1 = (p : Int) := by omega
            have hsub2 : (m : Int) - 2 = (q : Int) := by omega
            have hpm : p < m := by omega
            have hqm : q < m := by omega
            have hqc : q ≤ cp := by omega
            have hqm2 : m - 2 = q := by omega
            have HQM := Lib.hid hqm2
            clear hst hp hq hmp hpq hx hD htk h2 hqm2
            have hnn := HNN.out
            have y0 := hnn.cell 0
            have y1 := hnn.cell 1
            have y2 := hnn.cell 2
            have y3 := hnn.cell 3
            simp at y0 y1 y2 y3
            clear hnn
            go_wp2_with fail
            refine (takes_any op _).mono ?_
            rintro e w' ⟨rfl, rfl⟩
            rw [HTK.out]
            have eN : Wn.cell? ⟨gp, p, none⟩ = some (.int .i64 vb) := by
              have h := ownI_spot HPN.out (i := p) (by omega)
              rw [← HPL.out, rev_top, HPL.out] at h
              exact h
            have hnN := HNN.out
            have fN := hnN.thawed 3
            have cN := hnN.cell 3
            simp at cN
            obtain ⟨W2, hWN⟩ : ∃ X, Wn.setCell ⟨wr.heap.size, 3, none⟩ (.int .i64 vb) = X := ⟨_, rfl⟩
            have HN2 : Hid (Blk W2 wr.heap.size 72 #[.int .i64 op, .int .i64 Z, .int .i64 (-1), .int .i64 vb]) := by
              show Blk _ _ _ _
              rw [← hWN]
              exact hnN.put 3 (.int .i64 vb)
            have HO2 : Hid (OwnN W2 w.heap.size (some ⟨go, 0, none⟩) N co ns1) := by
              show OwnN _ _ _ _ _ _
              rw [← hWN]
              exact own_store HON.out (p := ⟨wr.heap.size, 3, none⟩) (by simp [Value.ownBlock]; omega) _
            have HP2 : Hid (OwnI W2 w.heap.size (some ⟨gp, 0, none⟩) m cp (vb :: va :: st2).reverse) := by
              show OwnI _ _ _ _ _ _
              rw [← hWN]
              exact own_store HPN.out (p := ⟨wr.heap.size, 3, none⟩) (by simp [Value.ownBlock]; omega) _
            have HB2 : Hid (Below w.heap.size w W2) := by
              show Below _ _ _
              rw [← hWN]
              exact HBN.out.setCell (p := ⟨wr.heap.size, 3, none⟩) hsr _
            have hn2x := HN2.out
            have y20 := hn2x.cell 0
            have y21 := hn2x.cell 1
            have y22 := hn2x.cell 2
            have y23 := hn2x.cell 3
            simp at y20 y21 y22 y23
            clear hnN HNN HON HPN HBN hn2x
            have e2 : W2.cell? ⟨gp, q, none⟩ = some (.int .i64 va) := by
              have h := ownI_spot HP2.out (i := q) (by omega)
              rw [← HQL.out, rev_next, HQL.out] at h
              exact h
            have hn2 := HN2.out
            have f2 := hn2.thawed 2
            have c2 := hn2.cell 2
            simp at c2
            obtain ⟨W3, hW2⟩ : ∃ X, W2.setCell ⟨wr.heap.size, 2, none⟩ (.int .i64 va) = X := ⟨_, rfl⟩
            have HN3 : Hid (Blk W3 wr.heap.size 72 #[.int .i64 op, .int .i64 Z, .int .i64 va, .int .i64 vb]) := by
              show Blk _ _ _ _
              rw [← hW2]
              exact hn2.put 2 (.int .i64 va)
            have HO3 : Hid (OwnN W3 w.heap.size (some ⟨go, 0, none⟩) N co ns1) := by
              show OwnN _ _ _ _ _ _
              rw [← hW2]
              exact own_store HO2.out (p := ⟨wr.heap.size, 2, none⟩) (by simp [Value.ownBlock]; omega) _
            have HP3 : Hid (OwnI W3 w.heap.size (some ⟨gp, 0, none⟩) m cp (vb :: va :: st2).reverse) := by
              show OwnI _ _ _ _ _ _
              rw [← hW2]
              exact own_store HP2.out (p := ⟨wr.heap.size, 2, none⟩) (by simp [Value.ownBlock]; omega) _
            have HB3 : Hid (Below w.heap.size w W3) := by
              show Below _ _ _
              rw [← hW2]
              exact HB2.out.setCell (p := ⟨wr.heap.size, 2, none⟩) hsr _
            have hn3x := HN3.out
            have y30 := hn3x.cell 0
            have y31 := hn3x.cell 1
            have y32 := hn3x.cell 2
            have y33 := hn3x.cell 3
            simp at y30 y31 y32 y33
            clear hn2 HN2 HO2 HP2 HB2 hn3x
            have hbl3 := HN3.out.lt
            go_wp2_with fail
            refine (find_any W3 W3.heap.size (some ⟨go, 0, none⟩) N co ns1 op Z va vb (Nat.le_refl _) (OwnN.reads HO3.out) hN1).mono ?_
            rintro e w4 ⟨rfl, hb4⟩
            have hn4 := HN3.out.below hb4 hbl3
            have HO4 : Hid (OwnN w4 w.heap.size (some ⟨go, 0, none⟩) N co ns1) := own_below' HO3.out hb4
            have HPC : Hid (OwnI w4 w.heap.size (some ⟨gp, 0, none⟩) m cp (vb :: va :: st2).reverse) := own_below' HP3.out hb4
            have HB4 := Lib.hid (HB3.out.trans (hb4.mono HB3.out.size))
            clear hb4 HO3 HP3 HB3 HN3 hbl3
            by_cases hmem : (op, Z, va, vb) ∈ ns1
            · obtain ⟨ix, hix⟩ : ∃ ix : Nat, ns1.idxOf (op, Z, va, vb) = ix := ⟨_, rfl⟩
              have HIX := Lib.hid hix
              have HADD : Hid (addNd ns1 (op, Z, va, vb) = ns1) := by show _ = _; unfold addNd; rw [if_pos hmem]
              rw [show findI ns1 (op, Z, va, vb) = (ix : Int) by unfold findI; rw [if_pos hmem, hix]]
              have HOC := HO4
              have HBC := HB4
              clear hmem hix hn4 HO4 HB4
              have hd : OwnI w4 w.heap.size (some ⟨gp, 0, none⟩) q cp st2.reverse := own_drop HPC.out HM.out 2 q HQM.out
              have hsw : w.heap.size ≤ w4.heap.size := HBC.out.size
              go_wp2_with (at_builtin; refine wpList_append_own _ rfl (.tmp 82) (.tmp 84) 40 rfl w.heap.size 3 j0 (.int .i64 0) 1 8 Tryd.underlying40 ji jz0 jz1 jz2 rfl (by decide) (.slice (some ⟨gp, 0, none⟩) q cp) q (st2.reverse.map (Value.int .i64)) rfl (World.ownsRow.alloc hd _) ⟨w4.heap.size, 0, none⟩ 1 1 [.int .i64 ix] rfl rfl (cell_one_new _ _ _) (fun u hu => by simp at hu; subst hu; rfl) (by unfold maxLen; omega) (by omega) (by simp; omega) ?_; intro v' w6 hown' hgrow _)
              obtain ⟨g6, c6, rfl⟩ := int_more' hown'
              have hp6 : OwnI w6 w.heap.size (some ⟨g6, 0, none⟩) (q + 1) c6 ((putTo ns l (k + 1)).2.reverse) := by
                show World.ownsRow _ _ _ _ _ _ _
                rw [HTO.out]
                unfold putS
                simp only
                rw [HX.out, HDS.out, HIX.out]
                simpa using hown'
              have hb6 : Below w.heap.size w w6 := (HBC.out.alloc hsw _).grown hgrow (by simp; omega) (fun k h => (hd.lt k h).1)
              have ho6 : OwnN w6 w.heap.size (some ⟨go, 0, none⟩) N co (putTo ns l (k + 1)).1 := by
                show World.ownsRow _ _ _ _ _ _ _
                rw [HTO.out]
                unfold putS
                simp only
                rw [HX.out, HADD.out]
                exact (World.ownsRow.alloc HOC.out _).kept hgrow (rows_apart2 HOC.out hd (by decide))
              have HP6 := Lib.hid hp6
              have HO6 := Lib.hid ho6
              have HB6 := Lib.hid hb6
              have HN6 : Hid ((putTo ns l (k + 1)).1.length = N) := (OwnN.reads ho6).1
              have HM6 : Hid ((putTo ns l (k + 1)).2.length = q + 1) := by
                have h := hp6.1
                simp at h
                show _ = _
                omega
              clear hown' hgrow hd hp6 hb6 ho6 HPC HOC HBC
              go_wp2
              go_roundw
              case rel => exact ⟨k + 1, N, q + 1, go, co, g6, c6, by omega, by go_num, rfl, rfl, HN6.out, HM6.out, HO6.out, HP6.out, HB6.out⟩
              case measure => simp [intOf]; omega
            · have HIX : Hid (ns1.idxOf (op, Z, va, vb) = N) := by show _ = _; rw [List.idxOf_eq_length hmem]; exact HN.out
              have HADD : Hid (addNd ns1 (op, Z, va, vb) = ns1 ++ [(op, Z, va, vb)]) := by show _ = _; unfold addNd; rw [if_neg hmem]
              rw [show findI ns1 (op, Z, va, vb) = -1 by unfold findI; rw [if_neg hmem]]
              have j0' := hn4.cell 0
              have j1' := hn4.cell 1
              have j2' := hn4.cell 2
              have j3' := hn4.cell 3
              simp at j0' j1' j2' j3'
              have hown := HO4.out
              have hsz4 : w.heap.size ≤ w4.heap.size := HB4.out.size
              clear hmem hn4
              go_wp2_with (at_builtin; first
                | (refine wpList_append_own _ rfl (.tmp 74) (.tmp 76) 26 rfl w.heap.size 72 i0 (.agg #[.int .i64 0, .int .i64 0, .int .i64 0, .int .i64 0]) 4 32 Tryd.underlying26 hi hz0 hz1 hz2 rfl (by decide) (.slice (some ⟨go, 0, none⟩) N co) N (nodCells ns1) rfl (World.ownsRow.alloc hown _) ⟨w4.heap.size, 0, none⟩ 1 1 (nodCells [(op, Z, va, vb)]) rfl rfl (nod_blk (Blk.made _ _ _)) (nodCells_one _) (by unfold maxLen; omega) (by omega) (by simp; omega) ?_
                   intro v' w5 hown' hgrow _
                   obtain ⟨g5, c5, rfl⟩ := nod_more hown'
                   have HOC : Hid (OwnN w5 w.heap.size (some ⟨g5, 0, none⟩) (N + 1) c5 (ns1 ++ [(op, Z, va, vb)])) := nod_snoc hown'
                   have HPC5 : Hid (OwnI w5 w.heap.size (some ⟨gp, 0, none⟩) m cp (vb :: va :: st2).reverse) := (World.ownsRow.alloc HPC.out _).kept hgrow (rows_apart2 HPC.out hown (by decide))
                   have HBC : Hid (Below w.heap.size w w5) := (HB4.out.alloc hsz4 _).grown hgrow (by simp; omega) (fun k h => (hown.lt k h).1)
                   clear hown hown' hgrow HPC HO4 HB4 j0' j1' j2' j3'
                   have HPC := HPC5
                   clear HPC5)
                | (have hd : OwnI w5 w.heap.size (some ⟨gp, 0, none⟩) q cp st2.reverse := own_drop HPC.out HM.out 2 q HQM.out
                   have hsw : w.heap.size ≤ w5.heap.size := HBC.out.size
                   refine wpList_append_own _ rfl (.tmp 82) (.tmp 84) 40 rfl w.heap.size 3 j0 (.int .i64 0) 1 8 Tryd.underlying40 ji jz0 jz1 jz2 rfl (by decide) (.slice (some ⟨gp, 0, none⟩) q cp) q (st2.reverse.map (Value.int .i64)) rfl (World.ownsRow.alloc hd _) ⟨w5.heap.size, 0, none⟩ 1 1 [.int .i64 N] rfl rfl (cell_one_new _ _ _) (fun u hu => by simp at hu; subst hu; rfl) (by unfold maxLen; omega) (by omega) (by simp; omega) ?_
                   intro v' w6 hown' hgrow _))
              obtain ⟨g6, c6, rfl⟩ := int_more' hown'
              have hp6 : OwnI w6 w.heap.size (some ⟨g6, 0, none⟩) (q + 1) c6 ((putTo ns l (k + 1)).2.reverse) := by
                show World.ownsRow _ _ _ _ _ _ _
                rw [HTO.out]
                unfold putS
                simp only
                rw [HX.out, HDS.out, HIX.out]
                simpa using hown'
              have hb6 : Below w.heap.size w w6 := (HBC.out.alloc hsw _).grown hgrow (by simp; omega) (fun k h => (hd.lt k h).1)
              have ho6 : OwnN w6 w.heap.size (some ⟨g5, 0, none⟩) (N + 1) c5 (putTo ns l (k + 1)).1 := by
                show World.ownsRow _ _ _ _ _ _ _
                rw [HTO.out]
                unfold putS
                simp only
                rw [HX.out, HADD.out]
                exact (World.ownsRow.alloc HOC.out _).kept hgrow (rows_apart2 HOC.out hd (by decide))
              have HP6 := Lib.hid hp6
              have HO6 := Lib.hid ho6
              have HB6 := Lib.hid hb6
              have HN6 : Hid ((putTo ns l (k + 1)).1.length = (N + 1)) := (OwnN.reads ho6).1
              have HM6 : Hid ((putTo ns l (k + 1)).2.length = q + 1) := by
                have h := hp6.1
                simp at h
                show _ = _
                omega
              clear hown' hgrow hd hp6 hb6 ho6 HPC HOC HBC
              go_wp2
              go_roundw
              case rel => exact ⟨k + 1, (N + 1), q + 1, g5, c5, g6, c6, by omega, by go_num, rfl, rfl, HN6.out, HM6.out, HO6.out, HP6.out, HB6.out⟩
              case measure => simp [intOf]; omega
        · obtain rfl : k = n2 := by omega
          have h1 := put_last (ns := ns) HLV.out
          rw [hnl] at h1
          have hm1 := HM.out
          rw [h1] at hm1
          subst hm1
          obtain ⟨v, hv⟩ : ∃ v, (putTo ns l k).2 = [v] := by
            match (putTo ns l k).2, h1 with
            | [v], _ => exact ⟨v, rfl⟩
          have hp1 := HP.out
          rw [hv] at hp1
          have e1 : wr.cell? ⟨gp, 0, none⟩ = some (.int .i64 v) := ownI_spot hp1 (i := 0) (by omega)
          have HV : Hid ((putTo ns l l.length).2.getD 0 0 = v) := by show _ = _; rw [hnl, hv]; rfl
          have HNL : Hid ((putTo ns l l.length).1.length = N) := by show _ = _; rw [hnl]; exact HN.out
          have HOL : Hid (OwnN wr w.heap.size (some ⟨go, 0, none⟩) N co (putTo ns l l.length).1) := by show OwnN _ _ _ _ _ _; rw [hnl]; exact HO.out
          have HBD : Hid (Below w.heap.size w wr.drew) := HB.out.drew
          clear h1 hv hp1 HM HP HO HN
          by_cases hbig : 200 < N
          · have HPK : Hid (putOk ns l = false) := by show _ = _; unfold putOk; rw [HNL.out, decide_eq_false (by omega), Bool.and_false]
            go_wp2
            go_ret3
            rw [HPK.out, (putOk_no HPK.out).1, (putOk_no HPK.out).2]
            exact ⟨none, 0, rfl, HN0.out _, HB.out⟩
          · have HPK : Hid (putOk ns l = true) := by show _ = _; unfold putOk; rw [HNL.out, decide_eq_true (by omega), HAO.out, HLV.out]; rfl
            go_wp2_with fail
            go_region
            go_wp2
            go_ret3
            rw [HPK.out, (putOk_yes HPK.out).1, (putOk_yes HPK.out).2, HV.out]
            unfold PutOut
            rw [HNL.out]
            exact ⟨some ⟨go, 0, none⟩, co, rfl, HOL.out, HBD.out⟩
end Go.Proofs.YtfmhmnpmdjpmeaaDoor
