/- ArenaPut of the program. -/
import Derived.Test.YtfmhmnpmdjpmeaaDoorApReg
import Derived.Test.YtfmhmnpmdjpmeaaDoorCls

namespace Go.Proofs.YtfmhmnpmdjpmeaaDoor
open Go.RowKit

theorem int_blk {w : World} {g : Nat} {x : Int} (h : Blk w g 3 #[.int .i64 x]) : ∀ j y, [Value.int .i64 x][j]? = some y → w.cell? ((⟨g, 0, none⟩ : Addr).add j) = some y := fun j y hy => by
  rw [own_adds, Blk.cell h j, ← hy]
  match j with
  | 0 => rfl
  | _ + 1 => rfl
theorem int_more' {w : World} {base n : Nat} {v : Value} {xs : List Value} (h : w.ownsRow base 3 1 v (n + 1) xs) : ∃ g c, v = .slice (some ⟨g, 0, none⟩) (n + 1) c := by
  rcases h.2 with ⟨_, h⟩ | ⟨g, c, _, h, _⟩
  · omega
  · exact ⟨g, c, h⟩
def PutC (g : Nat) (A : Option Addr) (c n : Nat) (x : Nd) (ix : Int) (j : Nat) (v : Value) : Prop :=
  match j with
  | 0 => v = .slice A n c
  | 1 => v = .pointer (some ⟨g, 0, none⟩)
  | 2 => v = .agg #[.int .i64 x.1, .int .i64 x.2.1, .int .i64 x.2.2.1, .int .i64 x.2.2.2]
  | 3 => v = .int .i64 ix
  | _ => True
theorem ArO.drew {w : World} {base g m n c : Nat} {A : Option Addr} {D : DataW Unit} {l : List Nd} (h : ArO w base g m A n c D l) : ArO w.drew base g m A n c D l := ⟨h.bg, h.bm, h.box, h.row, h.map.drew, h.gn⟩
theorem put_no {op N : Int} {st : List Int} (h : op = 0 ∨ op = 4) : putNd (op, N) st = (op, N, -1, -1) ∧ tkB op = false ∧ tkA op = false ∧ tkN op = 0 := by rcases h with rfl | rfl <;> exact ⟨rfl, rfl, rfl, rfl⟩
theorem put_two {op N : Int} {a b : Int} {st : List Int} (h : op = 2 ∨ op = 3) : putNd (op, N) (b :: a :: st) = (op, N, a, b) ∧ tkB op = true ∧ tkA op = true ∧ tkN op = 2 := by rcases h with rfl | rfl <;> exact ⟨rfl, rfl, rfl, rfl⟩

set_option maxRecDepth 100000 in
set_option maxHeartbeats 8000000 in
theorem put_any (w : World) (base g m : Nat) (A : Option Addr) (c : Nat) (D : DataW Unit) (ns : List Nd) (At : Option Addr) (nl cl : Nat) (l : List (Int × Int)) (hA : ArO w base g m A ns.length c D ns) (hbase : base ≤ w.heap.size) (hl : TokR w base At nl l) (hok : Lv.levelOk l = true) (hns : ns.length ≤ 200) :
    Calls Tryd.prog 58 #[.pointer (some ⟨g, 0, none⟩), .slice At nl cl] w fun e w' => e = .returned (.int .i64 ((putTo ns l l.length).2.getD 0 0)) ∧ Below base w w' ∧ ∃ A' c' D', ArO w' base g m A' (putTo ns l l.length).1.length c' D' (putTo ns l l.length).1 := by
  have hmf : ∀ (fn : Fn) (first cap : Array Value) (w : World), (Instr.makeFunc fn first cap).run Tryd.prog w = .ok (.func fn first cap) w := fun _ _ _ _ => rfl
  have hnl : l.length = nl := hl.1
  have h24 : nl ≤ 24 := by
    have h := hok
    simp only [Lv.levelOk, Bool.and_eq_true, decide_eq_true_eq] at h
    omega
  have HL := Lib.hid hl
  have HOK := Lib.hid hok
  have HS0 : Hid (Stk (w.alloc (.cells #[.slice none 0 0] 40)) base w.heap.size (putTo ns l 0).2) := ⟨hbase, none, 0, Blk.made _ _ _, World.ownsRow_nil _ _ _ _⟩
  have hb0 : Below w.heap.size w (w.alloc (.cells #[.slice none 0 0] 40)) := (Below.refl _ _).alloc (Nat.le_refl _) _
  have HA0 : Hid (ArO (w.alloc (.cells #[.slice none 0 0] 40)) base g m A (putTo ns l 0).1.length c D (putTo ns l 0).1) := hA.below hb0
  have HB0 := Lib.hid (hb0.mono hbase)
  have hgs : base ≤ w.heap.size := hbase
  obtain ⟨i0, hi, hz0, hz1, hz2⟩ := info_parts info_int
  clear hb0 hA hok hl
  go_enter Tryd.func58, Tryd.ntmps58
  go_wp2
  go_loopw [13] (fun i wr => ∃ (k : Nat) (A' : Option Addr) (c' : Nat) (D' : DataW Unit), k ≤ nl ∧ i = .int .i64 k ∧ Hid (ArO wr base g m A' (putTo ns l k).1.length c' D' (putTo ns l k).1) ∧ Hid (Stk wr base w.heap.size (putTo ns l k).2) ∧ Hid (Below base w wr)) (fun i _ => nl - (intOf i).toNat)
  case atStart => exact ⟨0, A, c, D, by omega, rfl, HA0.out, HS0.out, HB0.out⟩
  case round =>
    clear HA0 HS0 HB0
    obtain ⟨k, A', c', D', hk, rfl, HA, HS, HB⟩ := hrel
    have hsr := HB.out.size
    have hsb : base ≤ wr.heap.size := Nat.le_trans hbase hsr
    by_cases hlt : k < nl
    · obtain ⟨b, off, rfl, hb, hc⟩ := HL.out.2 (by omega)
      obtain ⟨c1, c2⟩ := hc k hlt
      obtain ⟨t, ht⟩ : ∃ t, l.getD k (0, 0) = t := ⟨_, rfl⟩
      have hst := put_step (ns := ns) HOK.out (k := k) (by omega)
      have hnd := put_nd (ns := ns) HOK.out (k := k) (by omega)
      have hlen := put_len ns l k
      have hto : putTo ns l (k + 1) = putS (putTo ns l k).1 (putTo ns l k).2 (l.getD k (0, 0)) := rfl
      rw [ht] at c1 c2 hst hnd hto
      generalize putTo ns l k = S at HA HS hst hnd hlen hto
      obtain ⟨ns1, st⟩ := S
      obtain ⟨op, N⟩ := t
      obtain ⟨hl1, hl2, hl3⟩ := hlen
      obtain ⟨htk, hst⟩ := hst
      have hop := Lv.tk_cases htk
      have hwf : ndWf (putNd (op, N) st) := ndOk_wf (k := ns1.length) (by simp only at hl2; omega) hnd
      have d1 := (HB.out.cell (p := ⟨b, off + k * 2, none⟩) hb).trans c1
      have d2 := (HB.out.cell (p := ⟨b, off + k * 2 + 1, none⟩) hb).trans c2
      simp only at hl1 hl2 hl3 hst hop hnd hwf hto HA HS
      have HTO := Lib.hid hto
      have hln : ns1.length ≤ 1048576 := by omega
      have hls : st.length ≤ 24 := by omega
      obtain ⟨Wa, hWa⟩ : ∃ X, wr.alloc (.cells #[.int .i64 op, .int .i64 N] 70) = X := ⟨_, rfl⟩
      have hba : Below wr.heap.size wr Wa := by rw [← hWa]; exact (Below.refl _ _).alloc (Nat.le_refl _) _
      have hta : Blk Wa wr.heap.size 70 #[.int .i64 op, .int .i64 N] := by rw [← hWa]; exact Blk.made _ _ _
      obtain ⟨Wn, hWn⟩ : ∃ X, Wa.alloc (.cells #[.int .i64 op, .int .i64 N, .int .i64 (-1), .int .i64 (-1)] 72) = X := ⟨_, rfl⟩
      have hbn : Below Wa.heap.size Wa Wn := by rw [← hWn]; exact (Below.refl _ _).alloc (Nat.le_refl _) _
      have hnb : Blk Wn Wa.heap.size 72 #[.int .i64 op, .int .i64 N, .int .i64 (-1), .int .i64 (-1)] := by rw [← hWn]; exact Blk.made _ _ _
      obtain ⟨nb, hnbe⟩ : ∃ nb, Wa.heap.size = nb := ⟨_, rfl⟩
      have htn := hta.below hbn hta.lt
      have hta2 := hta.cell 0
      have hta3 := hta.cell 1
      have ht0 := htn.cell 0
      have ht1 := htn.cell 1
      simp at hta2 hta3 ht0 ht1
      have HBN : Hid (Below base w Wn) := (HB.out.trans (hba.mono hsb)).trans (hbn.mono (Nat.le_trans hsb hba.size))
      have HAN : Hid (ArO Wn base g m A' ns1.length c' D' ns1) := (HA.out.below hba).below hbn
      have HSN : Hid (Stk Wn base w.heap.size st) := (HS.out.below hba).below hbn
      have HTB : Hid (Blk Wn wr.heap.size 70 #[.int .i64 op, .int .i64 N]) := htn
      rw [hnbe] at hnb
      have HNB := Lib.hid hnb
      have hnlt : wr.heap.size < nb := by rw [← hnbe]; exact hta.lt
      have HAP : Hid ((Value.slice A' ns1.length c').ownBlock ≠ some nb) := fun e => by
        have := (HA.out.row.lt nb e).2
        omega
      have hnsz : base ≤ nb := by omega
      clear c1 c2 hc ht hba hta hbn hnb htn htk HA HS hl1 hl2 hl3 hto
      rcases (show (op = 0 ∨ op = 4) ∨ op = 1 ∨ (op = 2 ∨ op = 3) by omega) with h0 | h1 | h2
      · obtain ⟨hx, hB, hA2, hD⟩ := put_no (N := N) (st := st) h0
        rw [hx] at hwf
        have HX := Lib.hid hx
        have HD : Hid (st.drop (tkN op) = st) := by show _ = _; rw [hD]; rfl
        have HWF := Lib.hid hwf
        have HTB2 := Lib.hid hB
        have HTA2 := Lib.hid hA2
        have HA3 := HAN
        have HN3 := HNB
        have HS3 := HSN
        have HB3 := HBN
        clear hx hwf hB hA2 hD h0 hop hst hnd HAN HNB HSN HBN
        go_wp2_with fail
        refine (takesB_any _ op).mono ?_
        rintro e w' ⟨rfl, rfl⟩
        rw [HTB2.out]
        go_wp2_with fail
        refine (takesA_any _ op).mono ?_
        rintro e w' ⟨rfl, rfl⟩
        rw [HTA2.out]
        obtain ⟨-, A3, c3, hgb, hrow⟩ := HS3.out
        have HST3 : Hid (PutG base g m w.heap.size nb ns1 st (op, N, -1, -1) A3 c3 38 39 Wn (fun _ => false) (fun _ => undef) Wn.drew) := ⟨(Below.refl _ _).drew, fun _ => ⟨⟨A', c', D', HA3.out.drew⟩, HN3.out⟩, (fun e => by cases e), fun _ => hrow, fun _ => hgb, (fun e => by cases e), (fun e => by cases e), (fun e => by cases e)⟩
        have hsW : base ≤ Wn.heap.size := Nat.le_trans hbase HB3.out.size
        clear hgb hrow HS3 HN3 HA3
        go_wp2_with fail
        rw [act_tmN _ 43 rfl]
        refine region_slots2 43 _ (fun _ d f w' => PutG base g m w.heap.size nb ns1 st (op, N, -1, -1) A3 c3 38 39 Wn d f w') (fun j vv _ => PutC g A3 c3 st.length (op, N, -1, -1) ((ns1.idxOf (op, N, -1, -1) : Nat) : Int) j vv) (fun _ _ => True) (by kernel_rfl) (by kernel_rfl) ⟨HST3.out.bel, HST3.out.pre, HST3.out.post, HST3.out.row, HST3.out.box, (fun e => by cases e), (fun e => by cases e), (fun e => by cases e)⟩ (fun _ _ _ _ _ hx => hx) (AllFrom.all (AllFrom.cons ?o0a (AllFrom.cons ?o1a (AllFrom.cons ?o2a (AllFrom.cons ?o3a (AllFrom.cons ?o4a (AllFrom.cons ?o5a (AllFrom.cons ?o6a AllFrom.nil)))))))) ?fina
        case o0a =>
          intro k d f wy hk hun hcl hwt hG hf hC
          have d6 := not_fed (top := 6) (by kernel_rfl) hcl (i := 0) (by omega) hun
          have c0 := (hG.box d6).cell 0
          simp at c0
          have e5 : (tm 43 f).tmps[5]?.getD undef = .pointer (some ⟨w.heap.size, 0, none⟩) := (tm_getN (by omega) f).trans (hf 5 (frame_of (by kernel_rfl)))
          refine op_wp rfl rfl fun K' hK' => ?_
          go_simp
          exact hK' _ _ ⟨_, rfl, trivial, hG.same (by decide) (by decide) (by decide) (by decide) (by decide) (by decide), rfl⟩
        case o1a =>
          intro k d f wy hk hun hcl hwt hG hf hC
          have e0 : (tm 43 f).tmps[0]?.getD undef = .pointer (some ⟨g, 0, none⟩) := (tm_getN (by omega) f).trans (hf 0 (frame_of (by kernel_rfl)))
          refine op_wp rfl rfl fun K' hK' => ?_
          go_simp
          exact hK' _ _ ⟨_, rfl, trivial, hG.same (by decide) (by decide) (by decide) (by decide) (by decide) (by decide), rfl⟩
        case o2a =>
          intro k d f wy hk hun hcl hwt hG hf hC
          have d3 : d 3 = false := by
            cases hd : d 3 with
            | false => rfl
            | true =>
              have h2 := hcl 3 2 hd (by kernel_rfl)
              rw [hun] at h2
              cases h2
          have hk2 : Blk wy nb 72 #[.int .i64 op, .int .i64 N, .int .i64 (-1), .int .i64 (-1)] := (hG.pre d3).2
          have e9 : (tm 43 f).eval (.tmp 9) = .pointer (some ⟨nb, 0, none⟩) := (tm_eval (by omega) f).trans (hf 9 (frame_of (by kernel_rfl)))
          refine op_wp rfl rfl fun K' hK' => ?_
          refine wp_load_row 72 _ rfl nb e9 72 #[.int .i64 op, .int .i64 N, .int .i64 (-1), .int .i64 (-1)] (0, 0) _ hk2 Tryd.underlying72 rfl (by kernel_rfl) ?_
          exact hK' _ _ ⟨_, rfl, trivial, hG.same (by decide) (by decide) (by decide) (by decide) (by decide) (by decide), rfl⟩
        case o3a =>
          intro k d f wy hk hun hcl hwt hG hf hC
          have d4 : d 4 = false := by
            cases hd : d 4 with
            | false => rfl
            | true =>
              have h2 := hcl 4 3 hd (by kernel_rfl)
              rw [hun] at h2
              cases h2
          have d5 : d 5 = false := by
            cases hd : d 5 with
            | false => rfl
            | true =>
              have h2 := hcl 5 4 hd (by kernel_rfl)
              rw [d4] at h2
              cases h2
          have d6 := not_fed (top := 6) (by kernel_rfl) hcl (i := 3) (by omega) hun
          obtain ⟨⟨A1, c1, D1, hA1⟩, -⟩ := hG.pre hun
          have e35 : (tm 43 f).tmps[35]?.getD undef = .pointer (some ⟨g, 0, none⟩) := (tm_getN (by omega) f).trans (hC 1 (by kernel_rfl))
          have e36 : (tm 43 f).tmps[36]?.getD undef = .agg #[.int .i64 op, .int .i64 N, .int .i64 (-1), .int .i64 (-1)] := (tm_getN (by omega) f).trans (hC 2 (by kernel_rfl))
          refine op_wp rfl rfl fun K' hK' => ?_
          go_simp
          refine (index_any wy base g m A1 ns1.length c1 D1 ns1 op N (-1) (-1) hA1 HWF.out hln (Nat.le_trans hsW hG.bel.size)).mono ?_
          rintro e w4 ⟨rfl, hb4, hn4, hfr4⟩
          exact hK' _ _ ⟨_, rfl, trivial, hG.called hA1 d4 d5 d6 hb4 hn4 hfr4, rfl⟩
        case o4a =>
          intro k d f wy hk hun hcl hwt hG hf hC
          have d3 : d 3 = true := hwt 3 (by kernel_rfl)
          have d5 : d 5 = false := by
            cases hd : d 5 with
            | false => rfl
            | true =>
              have h2 := hcl 5 4 hd (by kernel_rfl)
              rw [hun] at h2
              cases h2
          have d6 := not_fed (top := 6) (by kernel_rfl) hcl (i := 4) (by omega) hun
          have e37 : (tm 43 f).tmps[37]?.getD undef = .int .i64 ((ns1.idxOf (op, N, -1, -1) : Nat) : Int) := (tm_getN (by omega) f).trans (hC 3 (by kernel_rfl))
          refine op_wp rfl rfl fun K' hK' => ?_
          go_simp
          exact hK' _ _ ⟨.slice (some ⟨wy.heap.size, 0, none⟩) 1 1, rfl, trivial, hG.made d3 d5 d6 (Nat.le_trans hsW hG.bel.size), trivial⟩
        case o5a =>
          intro k d f wy hk hun hcl hwt hG hf hC
          have d4 : d 4 = true := hwt 4 (by kernel_rfl)
          have d3 : d 3 = true := hcl 4 3 d4 (by kernel_rfl)
          have d6 := not_fed (top := 6) (by kernel_rfl) hcl (i := 5) (by omega) hun
          have hsy : base ≤ wy.heap.size := Nat.le_trans hsW hG.bel.size
          obtain ⟨h1, hh1, hblk⟩ := hG.one d4 hun
          have hown := hG.row hun
          have e1 : (tm 43 f).eval (.tmp 34) = .slice A3 st.length c3 := (tm_eval (by omega) f).trans (hC 0 (by kernel_rfl))
          have e2 : (tm 43 f).eval (.tmp 38) = .slice (some ⟨h1, 0, none⟩) 1 1 := (tm_eval (by omega) f).trans hh1
          refine op_wp rfl rfl fun K' hK' => ?_
          refine wp_append_own wy (.tmp 34) (.tmp 38) 40 rfl base 3 i0 (.int .i64 0) 1 8 Tryd.underlying40 hi hz0 hz1 hz2 rfl (by decide) (.slice A3 st.length c3) st.length (st.reverse.map (Value.int .i64)) e1 hown ⟨h1, 0, none⟩ 1 1 [.int .i64 ((ns1.idxOf (op, N, -1, -1) : Nat) : Int)] e2 rfl (int_blk hblk) (fun u hu => by simp at hu; subst hu; rfl) (by unfold maxLen; omega) (by omega) hsy ?_
          intro v' w5 hown' hgrow hnil
          obtain ⟨g5, c5, rfl⟩ := int_more' hown'
          exact hK' _ _ ⟨_, rfl, trivial, hG.added d3 hun d6 hsy hgrow hown', trivial⟩
        case o6a =>
          intro k d f wy hk hun hcl hwt hG hf hC
          have d5 : d 5 = true := hwt 5 (by kernel_rfl)
          have d4 : d 4 = true := hcl 5 4 d5 (by kernel_rfl)
          have d3 : d 3 = true := hcl 4 3 d4 (by kernel_rfl)
          obtain ⟨q, kq, hq, _⟩ := hG.new d5
          have hbox := hG.box hun
          have f0 := hbox.thawed 0
          have c0 := hbox.cell 0
          simp at c0
          have e5 : (tm 43 f).tmps[5]?.getD undef = .pointer (some ⟨w.heap.size, 0, none⟩) := (tm_getN (by omega) f).trans (hf 5 (frame_of (by kernel_rfl)))
          have e39 : (tm 43 f).tmps[39]?.getD undef = .slice (some ⟨q, 0, none⟩) (st.length + 1) kq := (tm_getN (by omega) f).trans hq
          refine op_wp rfl rfl fun K' hK' => ?_
          go_simp
          exact hK' _ _ ⟨undef, rfl, trivial, hG.put d3 d5 hun hgs hq, trivial⟩
        case fina =>
          intro k2 d f wy hk2 hall hG hf hC
          have HP : Hid (∃ A' c' D', ArO wy base g m A' (addNd ns1 (op, N, -1, -1)).length c' D' (addNd ns1 (op, N, -1, -1))) := hG.post (hall 3 (by decide))
          obtain ⟨q, kq, hq, hown⟩ := hG.new (hall 5 (by decide))
          obtain ⟨q', kq', hq', hbox⟩ := hG.fin (hall 6 (by decide))
          rw [hq] at hq'
          injection hq' with e1 e2 e3
          injection e1 with e1
          injection e1 with e1
          subst e1; subst e3
          have HSF : Hid (Stk wy base w.heap.size (((ns1.idxOf (op, N, -1, -1) : Nat) : Int) :: st)) := ⟨hgs, some ⟨q, 0, none⟩, kq, hbox, by simpa using hown⟩
          have HBF : Hid (Below base w wy) := HB3.out.trans hG.bel
          have hfr : ∀ t, t ∉ [34, 35, 36, 37, 38, 39] → f t = _ := fun t ht => hf t (covers_not (by kernel_rfl) ht)
          rw [tm_frame 43 f _ _ hfr, ← act_tmN _ 43 rfl]
          simp only [List.foldl_cons, List.foldl_nil, Act.put, List.setIfInBounds_toArray, List.set_cons_succ, List.set_cons_zero]
          generalize f 34 = y34
          generalize f 35 = y35
          generalize f 36 = y36
          generalize f 37 = y37
          generalize f 38 = y38
          generalize f 39 = y39
          clear hG hf hC hall hfr hq hown hbox HST3
          obtain ⟨A7, c7, D7, hA7⟩ := HP.out
          have HAF : Hid (ArO wy base g m A7 (putTo ns l (k + 1)).1.length c7 D7 (putTo ns l (k + 1)).1) := by
            show ArO _ _ _ _ _ _ _ _ _
            rw [HTO.out]
            unfold putS
            rw [HX.out]
            exact hA7
          have HSF2 : Hid (Stk wy base w.heap.size (putTo ns l (k + 1)).2) := by
            show Stk _ _ _ _
            rw [HTO.out]
            unfold putS
            rw [HX.out, HD.out]
            exact HSF.out
          clear hA7 HP HSF
          go_wp2
          go_roundw
          case rel => exact ⟨k + 1, A7, c7, D7, by omega, by go_num, HAF.out, HSF2.out, HBF.out⟩
          case measure => simp [intOf]; omega
      · subst h1
        obtain ⟨v, st1, rfl⟩ : ∃ v st1, st = v :: st1 := by
          match st, hst with
          | v :: st1, _ => exact ⟨v, st1, rfl⟩
        have hx : putNd (1, N) (v :: st1) = (1, N, -1, v) := rfl
        rw [hx] at hwf
        have HX := Lib.hid hx
        have HD : Hid ((v :: st1).drop (tkN 1) = st1) := rfl
        have HWF := Lib.hid hwf
        simp only [List.length_cons] at hls
        clear hx hwf hop hst hnd
        go_wp2_with fail
        refine (takesB_any _ 1).mono ?_
        rintro e w' ⟨rfl, rfl⟩
        rw [show tkB 1 = true from rfl]
        go_wp2_with fail
        refine (popC_any Wn base w.heap.size st1 v HSN.out (by omega)).mono ?_
        rintro e w1 ⟨rfl, hs1, hb1, t1, cs1, u1, rfl, hbk1, hw1⟩
        have hne1 : nb ≠ w.heap.size := hbk1.apart HNB.out (by decide) |>.symm
        have hnb1 : Blk w1 nb 72 #[.int .i64 1, .int .i64 N, .int .i64 (-1), .int .i64 (-1)] := by rw [hw1]; exact (Below.heap_setCell _ _ _ _ hne1).trans HNB.out
        have hA1 : ArO w1 base g m A' ns1.length c' D' ns1 := by rw [hw1]; exact HAN.out.set hbk1 (by decide) (fun _ => own_apart HAN.out.row hbk1 (by decide)) _
        have htk1 : Blk w1 wr.heap.size 70 #[.int .i64 1, .int .i64 N] := by rw [hw1]; exact (Below.heap_setCell _ _ _ _ (hbk1.apart HTB.out (by decide)).symm).trans HTB.out
        have hf1 := hnb1.thawed 3
        have hc1 := hnb1.cell 3
        simp at hc1
        obtain ⟨w2, hW1⟩ : ∃ X, w1.setCell ⟨nb, 3, none⟩ (.int .i64 v) = X := ⟨_, rfl⟩
        have HN3 : Hid (Blk w2 nb 72 #[.int .i64 1, .int .i64 N, .int .i64 (-1), .int .i64 v]) := by
          show Blk _ _ _ _
          rw [← hW1]
          exact hnb1.put 3 (.int .i64 v)
        have HA3 : Hid (ArO w2 base g m A' ns1.length c' D' ns1) := by
          show ArO _ _ _ _ _ _ _ _ _
          rw [← hW1]
          exact hA1.set hnb1 (by decide) (fun _ => HAP.out) _
        have HS3 : Hid (Stk w2 base w.heap.size st1) := by
          show Stk _ _ _ _
          rw [← hW1]
          exact hs1.set hnb1 (by decide) (by decide) _
        have HB3 : Hid (Below base w w2) := by
          show Below _ _ _
          rw [← hW1]
          exact (HBN.out.trans hb1).setCell (p := ⟨nb, 3, none⟩) hnsz _
        have HT3 : Hid (Blk w2 wr.heap.size 70 #[.int .i64 1, .int .i64 N]) := by
          show Blk _ _ _ _
          rw [← hW1]
          exact (Below.heap_setCell _ _ _ _ (by show wr.heap.size ≠ nb; omega)).trans htk1
        have htc1 := HT3.out.cell 0
        simp at htc1
        clear hs1 hb1 hbk1 hw1 hne1 hnb1 hA1 htk1
        clear HSN HNB HAN HBN HTB
        go_wp2_with fail
        refine (takesA_any _ 1).mono ?_
        rintro e w' ⟨rfl, rfl⟩
        rw [show tkA 1 = false from rfl]
        obtain ⟨-, A3, c3, hgb, hrow⟩ := HS3.out
        have HST3 : Hid (PutG base g m w.heap.size nb ns1 st1 (1, N, -1, v) A3 c3 38 39 w2 (fun _ => false) (fun _ => undef) w2.drew) := ⟨(Below.refl _ _).drew, fun _ => ⟨⟨A', c', D', HA3.out.drew⟩, HN3.out⟩, (fun e => by cases e), fun _ => hrow, fun _ => hgb, (fun e => by cases e), (fun e => by cases e), (fun e => by cases e)⟩
        have hsW : base ≤ w2.heap.size := Nat.le_trans hbase HB3.out.size
        clear hgb hrow HS3 HN3 HA3
        go_wp2_with fail
        rw [act_tmN _ 43 rfl]
        refine region_slots2 43 _ (fun _ d f w' => PutG base g m w.heap.size nb ns1 st1 (1, N, -1, v) A3 c3 38 39 w2 d f w') (fun j vv _ => PutC g A3 c3 st1.length (1, N, -1, v) ((ns1.idxOf (1, N, -1, v) : Nat) : Int) j vv) (fun _ _ => True) (by kernel_rfl) (by kernel_rfl) ⟨HST3.out.bel, HST3.out.pre, HST3.out.post, HST3.out.row, HST3.out.box, (fun e => by cases e), (fun e => by cases e), (fun e => by cases e)⟩ (fun _ _ _ _ _ hx => hx) (AllFrom.all (AllFrom.cons ?o0b (AllFrom.cons ?o1b (AllFrom.cons ?o2b (AllFrom.cons ?o3b (AllFrom.cons ?o4b (AllFrom.cons ?o5b (AllFrom.cons ?o6b AllFrom.nil)))))))) ?finb
        case o0b =>
          intro k d f wy hk hun hcl hwt hG hf hC
          have d6 := not_fed (top := 6) (by kernel_rfl) hcl (i := 0) (by omega) hun
          have c0 := (hG.box d6).cell 0
          simp at c0
          have e5 : (tm 43 f).tmps[5]?.getD undef = .pointer (some ⟨w.heap.size, 0, none⟩) := (tm_getN (by omega) f).trans (hf 5 (frame_of (by kernel_rfl)))
          refine op_wp rfl rfl fun K' hK' => ?_
          go_simp
          exact hK' _ _ ⟨_, rfl, trivial, hG.same (by decide) (by decide) (by decide) (by decide) (by decide) (by decide), rfl⟩
        case o1b =>
          intro k d f wy hk hun hcl hwt hG hf hC
          have e0 : (tm 43 f).tmps[0]?.getD undef = .pointer (some ⟨g, 0, none⟩) := (tm_getN (by omega) f).trans (hf 0 (frame_of (by kernel_rfl)))
          refine op_wp rfl rfl fun K' hK' => ?_
          go_simp
          exact hK' _ _ ⟨_, rfl, trivial, hG.same (by decide) (by decide) (by decide) (by decide) (by decide) (by decide), rfl⟩
        case o2b =>
          intro k d f wy hk hun hcl hwt hG hf hC
          have d3 : d 3 = false := by
            cases hd : d 3 with
            | false => rfl
            | true =>
              have h2 := hcl 3 2 hd (by kernel_rfl)
              rw [hun] at h2
              cases h2
          have hk2 : Blk wy nb 72 #[.int .i64 (1), .int .i64 N, .int .i64 (-1), .int .i64 v] := (hG.pre d3).2
          have e9 : (tm 43 f).eval (.tmp 9) = .pointer (some ⟨nb, 0, none⟩) := (tm_eval (by omega) f).trans (hf 9 (frame_of (by kernel_rfl)))
          refine op_wp rfl rfl fun K' hK' => ?_
          refine wp_load_row 72 _ rfl nb e9 72 #[.int .i64 (1), .int .i64 N, .int .i64 (-1), .int .i64 v] (0, 0) _ hk2 Tryd.underlying72 rfl (by kernel_rfl) ?_
          exact hK' _ _ ⟨_, rfl, trivial, hG.same (by decide) (by decide) (by decide) (by decide) (by decide) (by decide), rfl⟩
        case o3b =>
          intro k d f wy hk hun hcl hwt hG hf hC
          have d4 : d 4 = false := by
            cases hd : d 4 with
            | false => rfl
            | true =>
              have h2 := hcl 4 3 hd (by kernel_rfl)
              rw [hun] at h2
              cases h2
          have d5 : d 5 = false := by
            cases hd : d 5 with
            | false => rfl
            | true =>
              have h2 := hcl 5 4 hd (by kernel_rfl)
              rw [d4] at h2
              cases h2
          have d6 := not_fed (top := 6) (by kernel_rfl) hcl (i := 3) (by omega) hun
          obtain ⟨⟨A1, c1, D1, hA1⟩, -⟩ := hG.pre hun
          have e35 : (tm 43 f).tmps[35]?.getD undef = .pointer (some ⟨g, 0, none⟩) := (tm_getN (by omega) f).trans (hC 1 (by kernel_rfl))
          have e36 : (tm 43 f).tmps[36]?.getD undef = .agg #[.int .i64 (1), .int .i64 N, .int .i64 (-1), .int .i64 v] := (tm_getN (by omega) f).trans (hC 2 (by kernel_rfl))
          refine op_wp rfl rfl fun K' hK' => ?_
          go_simp
          refine (index_any wy base g m A1 ns1.length c1 D1 ns1 (1) N (-1) v hA1 HWF.out hln (Nat.le_trans hsW hG.bel.size)).mono ?_
          rintro e w4 ⟨rfl, hb4, hn4, hfr4⟩
          exact hK' _ _ ⟨_, rfl, trivial, hG.called hA1 d4 d5 d6 hb4 hn4 hfr4, rfl⟩
        case o4b =>
          intro k d f wy hk hun hcl hwt hG hf hC
          have d3 : d 3 = true := hwt 3 (by kernel_rfl)
          have d5 : d 5 = false := by
            cases hd : d 5 with
            | false => rfl
            | true =>
              have h2 := hcl 5 4 hd (by kernel_rfl)
              rw [hun] at h2
              cases h2
          have d6 := not_fed (top := 6) (by kernel_rfl) hcl (i := 4) (by omega) hun
          have e37 : (tm 43 f).tmps[37]?.getD undef = .int .i64 ((ns1.idxOf (1, N, -1, v) : Nat) : Int) := (tm_getN (by omega) f).trans (hC 3 (by kernel_rfl))
          refine op_wp rfl rfl fun K' hK' => ?_
          go_simp
          exact hK' _ _ ⟨.slice (some ⟨wy.heap.size, 0, none⟩) 1 1, rfl, trivial, hG.made d3 d5 d6 (Nat.le_trans hsW hG.bel.size), trivial⟩
        case o5b =>
          intro k d f wy hk hun hcl hwt hG hf hC
          have d4 : d 4 = true := hwt 4 (by kernel_rfl)
          have d3 : d 3 = true := hcl 4 3 d4 (by kernel_rfl)
          have d6 := not_fed (top := 6) (by kernel_rfl) hcl (i := 5) (by omega) hun
          have hsy : base ≤ wy.heap.size := Nat.le_trans hsW hG.bel.size
          obtain ⟨h1, hh1, hblk⟩ := hG.one d4 hun
          have hown := hG.row hun
          have e1 : (tm 43 f).eval (.tmp 34) = .slice A3 st1.length c3 := (tm_eval (by omega) f).trans (hC 0 (by kernel_rfl))
          have e2 : (tm 43 f).eval (.tmp 38) = .slice (some ⟨h1, 0, none⟩) 1 1 := (tm_eval (by omega) f).trans hh1
          refine op_wp rfl rfl fun K' hK' => ?_
          refine wp_append_own wy (.tmp 34) (.tmp 38) 40 rfl base 3 i0 (.int .i64 0) 1 8 Tryd.underlying40 hi hz0 hz1 hz2 rfl (by decide) (.slice A3 st1.length c3) st1.length (st1.reverse.map (Value.int .i64)) e1 hown ⟨h1, 0, none⟩ 1 1 [.int .i64 ((ns1.idxOf (1, N, -1, v) : Nat) : Int)] e2 rfl (int_blk hblk) (fun u hu => by simp at hu; subst hu; rfl) (by unfold maxLen; omega) (by omega) hsy ?_
          intro v' w5 hown' hgrow hnil
          obtain ⟨g5, c5, rfl⟩ := int_more' hown'
          exact hK' _ _ ⟨_, rfl, trivial, hG.added d3 hun d6 hsy hgrow hown', trivial⟩
        case o6b =>
          intro k d f wy hk hun hcl hwt hG hf hC
          have d5 : d 5 = true := hwt 5 (by kernel_rfl)
          have d4 : d 4 = true := hcl 5 4 d5 (by kernel_rfl)
          have d3 : d 3 = true := hcl 4 3 d4 (by kernel_rfl)
          obtain ⟨q, kq, hq, _⟩ := hG.new d5
          have hbox := hG.box hun
          have f0 := hbox.thawed 0
          have c0 := hbox.cell 0
          simp at c0
          have e5 : (tm 43 f).tmps[5]?.getD undef = .pointer (some ⟨w.heap.size, 0, none⟩) := (tm_getN (by omega) f).trans (hf 5 (frame_of (by kernel_rfl)))
          have e39 : (tm 43 f).tmps[39]?.getD undef = .slice (some ⟨q, 0, none⟩) (st1.length + 1) kq := (tm_getN (by omega) f).trans hq
          refine op_wp rfl rfl fun K' hK' => ?_
          go_simp
          exact hK' _ _ ⟨undef, rfl, trivial, hG.put d3 d5 hun hgs hq, trivial⟩
        case finb =>
          intro k2 d f wy hk2 hall hG hf hC
          have HP : Hid (∃ A' c' D', ArO wy base g m A' (addNd ns1 (1, N, -1, v)).length c' D' (addNd ns1 (1, N, -1, v))) := hG.post (hall 3 (by decide))
          obtain ⟨q, kq, hq, hown⟩ := hG.new (hall 5 (by decide))
          obtain ⟨q', kq', hq', hbox⟩ := hG.fin (hall 6 (by decide))
          rw [hq] at hq'
          injection hq' with e1 e2 e3
          injection e1 with e1
          injection e1 with e1
          subst e1; subst e3
          have HSF : Hid (Stk wy base w.heap.size (((ns1.idxOf (1, N, -1, v) : Nat) : Int) :: st1)) := ⟨hgs, some ⟨q, 0, none⟩, kq, hbox, by simpa using hown⟩
          have HBF : Hid (Below base w wy) := HB3.out.trans hG.bel
          have hfr : ∀ t, t ∉ [34, 35, 36, 37, 38, 39] → f t = _ := fun t ht => hf t (covers_not (by kernel_rfl) ht)
          rw [tm_frame 43 f _ _ hfr, ← act_tmN _ 43 rfl]
          simp only [List.foldl_cons, List.foldl_nil, Act.put, List.setIfInBounds_toArray, List.set_cons_succ, List.set_cons_zero]
          generalize f 34 = y34
          generalize f 35 = y35
          generalize f 36 = y36
          generalize f 37 = y37
          generalize f 38 = y38
          generalize f 39 = y39
          clear hG hf hC hall hfr hq hown hbox HST3
          obtain ⟨A7, c7, D7, hA7⟩ := HP.out
          have HAF : Hid (ArO wy base g m A7 (putTo ns l (k + 1)).1.length c7 D7 (putTo ns l (k + 1)).1) := by
            show ArO _ _ _ _ _ _ _ _ _
            rw [HTO.out]
            unfold putS
            rw [HX.out]
            exact hA7
          have HSF2 : Hid (Stk wy base w.heap.size (putTo ns l (k + 1)).2) := by
            show Stk _ _ _ _
            rw [HTO.out]
            unfold putS
            rw [HX.out, HD.out]
            exact HSF.out
          clear hA7 HP HSF
          go_wp2
          go_roundw
          case rel => exact ⟨k + 1, A7, c7, D7, by omega, by go_num, HAF.out, HSF2.out, HBF.out⟩
          case measure => simp [intOf]; omega
      · obtain ⟨vb, va, st2, rfl⟩ : ∃ vb va st2, st = vb :: va :: st2 := by
          have hD2 : tkN op = 2 := by rcases h2 with rfl | rfl <;> rfl
          rw [hD2] at hst
          match st, hst with
          | vb :: va :: st2, _ => exact ⟨vb, va, st2, rfl⟩
        obtain ⟨hx, hB, hA2, hD⟩ := put_two (N := N) (a := va) (b := vb) (st := st2) h2
        rw [hx] at hwf
        have HX := Lib.hid hx
        have HD : Hid ((vb :: va :: st2).drop (tkN op) = st2) := by show _ = _; rw [hD]; rfl
        have HWF := Lib.hid hwf
        have HTB2 := Lib.hid hB
        have HTA2 := Lib.hid hA2
        simp only [List.length_cons] at hls
        clear hx hwf hB hA2 hD h2 hop hst hnd
        go_wp2_with fail
        refine (takesB_any _ op).mono ?_
        rintro e w' ⟨rfl, rfl⟩
        rw [HTB2.out]
        go_wp2_with fail
        refine (popC_any Wn base w.heap.size (va :: st2) vb HSN.out (by simp; omega)).mono ?_
        rintro e w1 ⟨rfl, hs1, hb1, t1, cs1, u1, rfl, hbk1, hw1⟩
        have hne1 : nb ≠ w.heap.size := hbk1.apart HNB.out (by decide) |>.symm
        have hnb1 : Blk w1 nb 72 #[.int .i64 op, .int .i64 N, .int .i64 (-1), .int .i64 (-1)] := by rw [hw1]; exact (Below.heap_setCell _ _ _ _ hne1).trans HNB.out
        have hA1 : ArO w1 base g m A' ns1.length c' D' ns1 := by rw [hw1]; exact HAN.out.set hbk1 (by decide) (fun _ => own_apart HAN.out.row hbk1 (by decide)) _
        have htk1 : Blk w1 wr.heap.size 70 #[.int .i64 op, .int .i64 N] := by rw [hw1]; exact (Below.heap_setCell _ _ _ _ (hbk1.apart HTB.out (by decide)).symm).trans HTB.out
        have hf1 := hnb1.thawed 3
        have hc1 := hnb1.cell 3
        simp at hc1
        obtain ⟨w2, hW1⟩ : ∃ X, w1.setCell ⟨nb, 3, none⟩ (.int .i64 vb) = X := ⟨_, rfl⟩
        have HN2 : Hid (Blk w2 nb 72 #[.int .i64 op, .int .i64 N, .int .i64 (-1), .int .i64 vb]) := by
          show Blk _ _ _ _
          rw [← hW1]
          exact hnb1.put 3 (.int .i64 vb)
        have HA2 : Hid (ArO w2 base g m A' ns1.length c' D' ns1) := by
          show ArO _ _ _ _ _ _ _ _ _
          rw [← hW1]
          exact hA1.set hnb1 (by decide) (fun _ => HAP.out) _
        have HS2 : Hid (Stk w2 base w.heap.size (va :: st2)) := by
          show Stk _ _ _ _
          rw [← hW1]
          exact hs1.set hnb1 (by decide) (by decide) _
        have HB2 : Hid (Below base w w2) := by
          show Below _ _ _
          rw [← hW1]
          exact (HBN.out.trans hb1).setCell (p := ⟨nb, 3, none⟩) hnsz _
        have HT2 : Hid (Blk w2 wr.heap.size 70 #[.int .i64 op, .int .i64 N]) := by
          show Blk _ _ _ _
          rw [← hW1]
          exact (Below.heap_setCell _ _ _ _ (by show wr.heap.size ≠ nb; omega)).trans htk1
        have htc1 := HT2.out.cell 0
        simp at htc1
        clear hs1 hb1 hbk1 hw1 hne1 hnb1 hA1 htk1
        clear HSN HNB HAN HBN HTB
        go_wp2_with fail
        refine (takesA_any _ op).mono ?_
        rintro e w' ⟨rfl, rfl⟩
        rw [HTA2.out]
        go_wp2_with fail
        refine (popC_any w2 base w.heap.size st2 va HS2.out (by omega)).mono ?_
        rintro e w3 ⟨rfl, hs2, hb2, t2, cs2, u2, rfl, hbk2, hw2⟩
        have hne2 : nb ≠ w.heap.size := hbk2.apart HN2.out (by decide) |>.symm
        have hnb2 : Blk w3 nb 72 #[.int .i64 op, .int .i64 N, .int .i64 (-1), .int .i64 vb] := by rw [hw2]; exact (Below.heap_setCell _ _ _ _ hne2).trans HN2.out
        have hA2 : ArO w3 base g m A' ns1.length c' D' ns1 := by rw [hw2]; exact HA2.out.set hbk2 (by decide) (fun _ => own_apart HA2.out.row hbk2 (by decide)) _
        have htk2 : Blk w3 wr.heap.size 70 #[.int .i64 op, .int .i64 N] := by rw [hw2]; exact (Below.heap_setCell _ _ _ _ (hbk2.apart HT2.out (by decide)).symm).trans HT2.out
        have hf2 := hnb2.thawed 2
        have hc2 := hnb2.cell 2
        simp at hc2
        obtain ⟨w4, hW2⟩ : ∃ X, w3.setCell ⟨nb, 2, none⟩ (.int .i64 va) = X := ⟨_, rfl⟩
        have HN3 : Hid (Blk w4 nb 72 #[.int .i64 op, .int .i64 N, .int .i64 va, .int .i64 vb]) := by
          show Blk _ _ _ _
          rw [← hW2]
          exact hnb2.put 2 (.int .i64 va)
        have HA3 : Hid (ArO w4 base g m A' ns1.length c' D' ns1) := by
          show ArO _ _ _ _ _ _ _ _ _
          rw [← hW2]
          exact hA2.set hnb2 (by decide) (fun _ => HAP.out) _
        have HS3 : Hid (Stk w4 base w.heap.size st2) := by
          show Stk _ _ _ _
          rw [← hW2]
          exact hs2.set hnb2 (by decide) (by decide) _
        have HB3 : Hid (Below base w w4) := by
          show Below _ _ _
          rw [← hW2]
          exact (HB2.out.trans hb2).setCell (p := ⟨nb, 2, none⟩) hnsz _
        have HT3 : Hid (Blk w4 wr.heap.size 70 #[.int .i64 op, .int .i64 N]) := by
          show Blk _ _ _ _
          rw [← hW2]
          exact (Below.heap_setCell _ _ _ _ (by show wr.heap.size ≠ nb; omega)).trans htk2
        have htc2 := HT3.out.cell 0
        simp at htc2
        clear hs2 hb2 hbk2 hw2 hne2 hnb2 hA2 htk2
        clear HS2 HN2 HA2 HB2 HT2
        obtain ⟨-, A3, c3, hgb, hrow⟩ := HS3.out
        have HST3 : Hid (PutG base g m w.heap.size nb ns1 st2 (op, N, va, vb) A3 c3 38 39 w4 (fun _ => false) (fun _ => undef) w4.drew) := ⟨(Below.refl _ _).drew, fun _ => ⟨⟨A', c', D', HA3.out.drew⟩, HN3.out⟩, (fun e => by cases e), fun _ => hrow, fun _ => hgb, (fun e => by cases e), (fun e => by cases e), (fun e => by cases e)⟩
        have hsW : base ≤ w4.heap.size := Nat.le_trans hbase HB3.out.size
        clear hgb hrow HS3 HN3 HA3
        go_wp2_with fail
        rw [act_tmN _ 43 rfl]
        refine region_slots2 43 _ (fun _ d f w' => PutG base g m w.heap.size nb ns1 st2 (op, N, va, vb) A3 c3 38 39 w4 d f w') (fun j vv _ => PutC g A3 c3 st2.length (op, N, va, vb) ((ns1.idxOf (op, N, va, vb) : Nat) : Int) j vv) (fun _ _ => True) (by kernel_rfl) (by kernel_rfl) ⟨HST3.out.bel, HST3.out.pre, HST3.out.post, HST3.out.row, HST3.out.box, (fun e => by cases e), (fun e => by cases e), (fun e => by cases e)⟩ (fun _ _ _ _ _ hx => hx) (AllFrom.all (AllFrom.cons ?o0c (AllFrom.cons ?o1c (AllFrom.cons ?o2c (AllFrom.cons ?o3c (AllFrom.cons ?o4c (AllFrom.cons ?o5c (AllFrom.cons ?o6c AllFrom.nil)))))))) ?finc
        case o0c =>
          intro k d f wy hk hun hcl hwt hG hf hC
          have d6 := not_fed (top := 6) (by kernel_rfl) hcl (i := 0) (by omega) hun
          have c0 := (hG.box d6).cell 0
          simp at c0
          have e5 : (tm 43 f).tmps[5]?.getD undef = .pointer (some ⟨w.heap.size, 0, none⟩) := (tm_getN (by omega) f).trans (hf 5 (frame_of (by kernel_rfl)))
          refine op_wp rfl rfl fun K' hK' => ?_
          go_simp
          exact hK' _ _ ⟨_, rfl, trivial, hG.same (by decide) (by decide) (by decide) (by decide) (by decide) (by decide), rfl⟩
        case o1c =>
          intro k d f wy hk hun hcl hwt hG hf hC
          have e0 : (tm 43 f).tmps[0]?.getD undef = .pointer (some ⟨g, 0, none⟩) := (tm_getN (by omega) f).trans (hf 0 (frame_of (by kernel_rfl)))
          refine op_wp rfl rfl fun K' hK' => ?_
          go_simp
          exact hK' _ _ ⟨_, rfl, trivial, hG.same (by decide) (by decide) (by decide) (by decide) (by decide) (by decide), rfl⟩
        case o2c =>
          intro k d f wy hk hun hcl hwt hG hf hC
          have d3 : d 3 = false := by
            cases hd : d 3 with
            | false => rfl
            | true =>
              have h2 := hcl 3 2 hd (by kernel_rfl)
              rw [hun] at h2
              cases h2
          have hk2 : Blk wy nb 72 #[.int .i64 op, .int .i64 N, .int .i64 va, .int .i64 vb] := (hG.pre d3).2
          have e9 : (tm 43 f).eval (.tmp 9) = .pointer (some ⟨nb, 0, none⟩) := (tm_eval (by omega) f).trans (hf 9 (frame_of (by kernel_rfl)))
          refine op_wp rfl rfl fun K' hK' => ?_
          refine wp_load_row 72 _ rfl nb e9 72 #[.int .i64 op, .int .i64 N, .int .i64 va, .int .i64 vb] (0, 0) _ hk2 Tryd.underlying72 rfl (by kernel_rfl) ?_
          exact hK' _ _ ⟨_, rfl, trivial, hG.same (by decide) (by decide) (by decide) (by decide) (by decide) (by decide), rfl⟩
        case o3c =>
          intro k d f wy hk hun hcl hwt hG hf hC
          have d4 : d 4 = false := by
            cases hd : d 4 with
            | false => rfl
            | true =>
              have h2 := hcl 4 3 hd (by kernel_rfl)
              rw [hun] at h2
              cases h2
          have d5 : d 5 = false := by
            cases hd : d 5 with
            | false => rfl
            | true =>
              have h2 := hcl 5 4 hd (by kernel_rfl)
              rw [d4] at h2
              cases h2
          have d6 := not_fed (top := 6) (by kernel_rfl) hcl (i := 3) (by omega) hun
          obtain ⟨⟨A1, c1, D1, hA1⟩, -⟩ := hG.pre hun
          have e35 : (tm 43 f).tmps[35]?.getD undef = .pointer (some ⟨g, 0, none⟩) := (tm_getN (by omega) f).trans (hC 1 (by kernel_rfl))
          have e36 : (tm 43 f).tmps[36]?.getD undef = .agg #[.int .i64 op, .int .i64 N, .int .i64 va, .int .i64 vb] := (tm_getN (by omega) f).trans (hC 2 (by kernel_rfl))
          refine op_wp rfl rfl fun K' hK' => ?_
          go_simp
          refine (index_any wy base g m A1 ns1.length c1 D1 ns1 op N va vb hA1 HWF.out hln (Nat.le_trans hsW hG.bel.size)).mono ?_
          rintro e w4 ⟨rfl, hb4, hn4, hfr4⟩
          exact hK' _ _ ⟨_, rfl, trivial, hG.called hA1 d4 d5 d6 hb4 hn4 hfr4, rfl⟩
        case o4c =>
          intro k d f wy hk hun hcl hwt hG hf hC
          have d3 : d 3 = true := hwt 3 (by kernel_rfl)
          have d5 : d 5 = false := by
            cases hd : d 5 with
            | false => rfl
            | true =>
              have h2 := hcl 5 4 hd (by kernel_rfl)
              rw [hun] at h2
              cases h2
          have d6 := not_fed (top := 6) (by kernel_rfl) hcl (i := 4) (by omega) hun
          have e37 : (tm 43 f).tmps[37]?.getD undef = .int .i64 ((ns1.idxOf (op, N, va, vb) : Nat) : Int) := (tm_getN (by omega) f).trans (hC 3 (by kernel_rfl))
          refine op_wp rfl rfl fun K' hK' => ?_
          go_simp
          exact hK' _ _ ⟨.slice (some ⟨wy.heap.size, 0, none⟩) 1 1, rfl, trivial, hG.made d3 d5 d6 (Nat.le_trans hsW hG.bel.size), trivial⟩
        case o5c =>
          intro k d f wy hk hun hcl hwt hG hf hC
          have d4 : d 4 = true := hwt 4 (by kernel_rfl)
          have d3 : d 3 = true := hcl 4 3 d4 (by kernel_rfl)
          have d6 := not_fed (top := 6) (by kernel_rfl) hcl (i := 5) (by omega) hun
          have hsy : base ≤ wy.heap.size := Nat.le_trans hsW hG.bel.size
          obtain ⟨h1, hh1, hblk⟩ := hG.one d4 hun
          have hown := hG.row hun
          have e1 : (tm 43 f).eval (.tmp 34) = .slice A3 st2.length c3 := (tm_eval (by omega) f).trans (hC 0 (by kernel_rfl))
          have e2 : (tm 43 f).eval (.tmp 38) = .slice (some ⟨h1, 0, none⟩) 1 1 := (tm_eval (by omega) f).trans hh1
          refine op_wp rfl rfl fun K' hK' => ?_
          refine wp_append_own wy (.tmp 34) (.tmp 38) 40 rfl base 3 i0 (.int .i64 0) 1 8 Tryd.underlying40 hi hz0 hz1 hz2 rfl (by decide) (.slice A3 st2.length c3) st2.length (st2.reverse.map (Value.int .i64)) e1 hown ⟨h1, 0, none⟩ 1 1 [.int .i64 ((ns1.idxOf (op, N, va, vb) : Nat) : Int)] e2 rfl (int_blk hblk) (fun u hu => by simp at hu; subst hu; rfl) (by unfold maxLen; omega) (by omega) hsy ?_
          intro v' w5 hown' hgrow hnil
          obtain ⟨g5, c5, rfl⟩ := int_more' hown'
          exact hK' _ _ ⟨_, rfl, trivial, hG.added d3 hun d6 hsy hgrow hown', trivial⟩
        case o6c =>
          intro k d f wy hk hun hcl hwt hG hf hC
          have d5 : d 5 = true := hwt 5 (by kernel_rfl)
          have d4 : d 4 = true := hcl 5 4 d5 (by kernel_rfl)
          have d3 : d 3 = true := hcl 4 3 d4 (by kernel_rfl)
          obtain ⟨q, kq, hq, _⟩ := hG.new d5
          have hbox := hG.box hun
          have f0 := hbox.thawed 0
          have c0 := hbox.cell 0
          simp at c0
          have e5 : (tm 43 f).tmps[5]?.getD undef = .pointer (some ⟨w.heap.size, 0, none⟩) := (tm_getN (by omega) f).trans (hf 5 (frame_of (by kernel_rfl)))
          have e39 : (tm 43 f).tmps[39]?.getD undef = .slice (some ⟨q, 0, none⟩) (st2.length + 1) kq := (tm_getN (by omega) f).trans hq
          refine op_wp rfl rfl fun K' hK' => ?_
          go_simp
          exact hK' _ _ ⟨undef, rfl, trivial, hG.put d3 d5 hun hgs hq, trivial⟩
        case finc =>
          intro k2 d f wy hk2 hall hG hf hC
          have HP : Hid (∃ A' c' D', ArO wy base g m A' (addNd ns1 (op, N, va, vb)).length c' D' (addNd ns1 (op, N, va, vb))) := hG.post (hall 3 (by decide))
          obtain ⟨q, kq, hq, hown⟩ := hG.new (hall 5 (by decide))
          obtain ⟨q', kq', hq', hbox⟩ := hG.fin (hall 6 (by decide))
          rw [hq] at hq'
          injection hq' with e1 e2 e3
          injection e1 with e1
          injection e1 with e1
          subst e1; subst e3
          have HSF : Hid (Stk wy base w.heap.size (((ns1.idxOf (op, N, va, vb) : Nat) : Int) :: st2)) := ⟨hgs, some ⟨q, 0, none⟩, kq, hbox, by simpa using hown⟩
          have HBF : Hid (Below base w wy) := HB3.out.trans hG.bel
          have hfr : ∀ t, t ∉ [34, 35, 36, 37, 38, 39] → f t = _ := fun t ht => hf t (covers_not (by kernel_rfl) ht)
          rw [tm_frame 43 f _ _ hfr, ← act_tmN _ 43 rfl]
          simp only [List.foldl_cons, List.foldl_nil, Act.put, List.setIfInBounds_toArray, List.set_cons_succ, List.set_cons_zero]
          generalize f 34 = y34
          generalize f 35 = y35
          generalize f 36 = y36
          generalize f 37 = y37
          generalize f 38 = y38
          generalize f 39 = y39
          clear hG hf hC hall hfr hq hown hbox HST3
          obtain ⟨A7, c7, D7, hA7⟩ := HP.out
          have HAF : Hid (ArO wy base g m A7 (putTo ns l (k + 1)).1.length c7 D7 (putTo ns l (k + 1)).1) := by
            show ArO _ _ _ _ _ _ _ _ _
            rw [HTO.out]
            unfold putS
            rw [HX.out]
            exact hA7
          have HSF2 : Hid (Stk wy base w.heap.size (putTo ns l (k + 1)).2) := by
            show Stk _ _ _ _
            rw [HTO.out]
            unfold putS
            rw [HX.out, HD.out]
            exact HSF.out
          clear hA7 HP HSF
          go_wp2
          go_roundw
          case rel => exact ⟨k + 1, A7, c7, D7, by omega, by go_num, HAF.out, HSF2.out, HBF.out⟩
          case measure => simp [intOf]; omega
    · obtain rfl : k = nl := by omega
      have h1 := put_last (ns := ns) HOK.out
      rw [← hnl] at HA HS
      obtain ⟨v, hv⟩ : ∃ v, (putTo ns l l.length).2 = [v] := by
        match (putTo ns l l.length).2, h1 with
        | [v], _ => exact ⟨v, rfl⟩
      rw [hv] at HS
      have HV : Hid ((putTo ns l l.length).2.getD 0 0 = v) := by show _ = _; rw [hv]; rfl
      clear h1 hv
      go_wp2_with fail
      refine (popC_any _ base w.heap.size [] v HS.out (by simp)).mono ?_
      rintro e w1 ⟨rfl, hs1, hb1, t1, cs1, u1, rfl, hbk1, hw1⟩
      have HA1 : Hid (ArO w1 base g m A' (putTo ns l l.length).1.length c' D' (putTo ns l l.length).1) := by
        show ArO _ _ _ _ _ _ _ _ _
        rw [hw1]
        exact HA.out.set hbk1 (by decide) (fun _ => own_apart HA.out.row hbk1 (by decide)) _
      have HB1 := Lib.hid (HB.out.trans hb1)
      clear hs1 hb1 hbk1 hw1 HA HB HS
      go_wp2
      go_ret
      exact ⟨by rw [HV.out]; rfl, HB1.out, A', c', D', HA1.out⟩
end Go.Proofs.YtfmhmnpmdjpmeaaDoor
