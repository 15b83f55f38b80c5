/- The law FnThin: the walk. -/
import Derived.Test.YtmmhcpigcdlnmaaDrawC
import Derived.Test.YtmmhcpigcdlnmaaThin2
import Derived.Test.YtmmhcpigcdlnmaaPtImp
import Derived.Test.YtmmhcpigcdlnmaaSameC
import Derived.Test.YtmmhcpigcdlnmaaPtsG

namespace Go.Proofs.Ytmmhcpigcdlnmaa
open Go.RowKit
open Cs (Cn Tb)

theorem thin_implies {l : List Cn} (hs : satR l = true) {k : Nat} (hk : k < l.length) : impR (Cs.skip l (Cs.thinTo l l.length)) (l.getD k (0, 0, 0)) = true := by
  rw [impR_skip hs _ hk]
  have hp := satR_parts hs
  have hc : Cs.cOk (l.getD k (0, 0, 0)) = true := hp.1 _ (by rw [List.getD_eq_getElem?_getD, List.getElem?_eq_getElem hk]; exact List.getElem_mem _)
  refine (Cs.imp_iff (Cs.skip_ok hp.1 _) (Cs.skip_flat hp.1 hp.2.2 _) hc).2 fun v hv => ?_
  have h2 := Cs.thin_same hp.1 hp.2.2 l.length (Nat.le_refl _) v hv
  exact h2.2 _ (by rw [List.getD_eq_getElem?_getD, List.getElem?_eq_getElem hk]; exact List.getElem_mem _)
theorem thin_alone {l : List Cn} (hs : satR l = true) {i : Nat} (hi : i < (Cs.skip l (Cs.thinTo l l.length)).length) : impR ((Cs.skip l (Cs.thinTo l l.length)).eraseIdx i) ((Cs.skip l (Cs.thinTo l l.length)).getD i (0, 0, 0)) = false := by
  obtain ⟨j, hj, hg, e1, e2⟩ := skip_erase hi
  have hp := satR_parts hs
  rw [e1, e2, impR_skip hs _ hj]
  exact Cs.thin_min hp.1 hp.2.2 hj hg
/-- what lies in the slot of each operation once it has come up -/
def ThC (gt ct M i : Nat) (W : World) (L : List Cn) (U R V : Int) (j : Nat) (v : Value) : Prop :=
  match j with
  | 1 | 5 => v = .slice (some ⟨gt, 0, none⟩) M ct
  | 2 | 6 => v = .int .i64 (i : Int)
  | 3 => v = .slice (some ⟨gt, 0, none⟩) i ct
  | 7 => v = .int .i64 ((i : Int) + 1)
  | 8 => ∃ A' c', v = .slice (some A') (M - (i + 1)) c' ∧ ∀ j u, (conCells (L.drop (i + 1)))[j]? = some u → W.cell? (A'.add j) = some u
  | 10 => v = .slice (some ⟨gt, 0, none⟩) M ct
  | 11 => v = .int .i64 (i : Int)
  | 12 => v = .pointer (some ⟨gt, i * 3, none⟩)
  | 13 => v = .agg #[.int .i64 U, .int .i64 R, .int .i64 V]
  | 14 => v = .bool false
  | _ => True

set_option maxRecDepth 100000 in
set_option maxHeartbeats 16000000 in
theorem fnThin_any (w : World) (B : Nat) (A : Option Addr) (n c : Nat) (hB : B ≤ w.heap.size) (hb : BytR w B A n) :
    Calls Try.prog 5 #[.slice A n c] w fun e w' => e = .returned (.bool true) ∧ Below w.heap.size w w' := by
  obtain ⟨i0, hi, hz0, hz1, hz2⟩ := info_parts info_con
  by_cases hbig : 1048576 < (n : Int)
  · go_enter Try.func5, Try.ntmps5
    go_wp2_with fail
    refine (big_any w A n c).mono ?_
    rintro e w' ⟨rfl, rfl⟩
    rw [decide_eq_true (by omega)]
    go_wp2
    go_ret
    exact ⟨rfl, Below.refl _ _⟩
  · have hn : n ≤ 1048576 := by omega
    go_enter Try.func5, Try.ntmps5
    go_wp2_with fail
    refine (big_any w A n c).mono ?_
    rintro e w' ⟨rfl, rfl⟩
    rw [decide_eq_false (by omega)]
    go_wp2_with fail
    refine (drawThin_any w B A n c hB hb hn).mono ?_
    rintro e w1 ⟨⟨g, cap, m, l, rfl, hm, ho1⟩, hb1⟩
    have HB1 := Lib.hid hb1
    have HO1 := Lib.hid ho1
    have hs1 := hb1.size
    have hlm : l.length = m := (OwnC.reads ho1).1
    have HLM := Lib.hid hlm
    clear ho1 hb1 hlm
    go_wp2_with fail
    refine (implConsThin_any w1 w1.heap.size (some ⟨g, 0, none⟩) m cap l (Nat.le_refl _) (OwnC.reads HO1.out) (by omega)).mono ?_
    rintro e w2 ⟨A2, c2, rfl, ho2, hb2⟩
    have HB2 := Lib.hid (HB1.out.trans (hb2.mono hs1))
    have HO2 := Lib.hid (own_below' HO1.out hb2)
    have HT2 := Lib.hid (own_base (base' := w.heap.size) ho2 hs1)
    have hs2 := HB2.out.size
    clear hb2 ho2 HO1 HB1
    go_wp2_with fail
    refine (specConsThin_any w2 w2.heap.size (some ⟨g, 0, none⟩) m cap l (Nat.le_refl _) (OwnC.reads HO2.out) (by omega)).mono ?_
    rintro e w3 ⟨A3, c3, rfl, ho3, hb3⟩
    have HB3 := Lib.hid (HB2.out.trans (hb3.mono hs2))
    have HO3 := Lib.hid (own_below' HO2.out hb3)
    have HT3 := Lib.hid (own_below' HT2.out hb3)
    have HV3 := Lib.hid (own_base (base' := w.heap.size) ho3 hs2)
    have hs3 := HB3.out.size
    clear hb3 ho3 HO2 HB2 HT2
    cases hsat : satR l with
    | false =>
      have HF := Lib.hid (thinO_no hsat)
      rw [HF.out] at HT3 HV3 ⊢
      simp only [Option.getD_none, Option.isSome_none, List.length_nil] at HT3 HV3 ⊢
      clear hsat
      go_wp2_with fail
      refine (sameCons_any w3 w3.heap.size A2 A3 0 0 c2 c3 [] [] (Nat.le_refl _) (OwnC.reads HT3.out) (OwnC.reads HV3.out) (by omega) (by omega)).mono ?_
      rintro e w4 ⟨rfl, hb4⟩
      rw [decide_eq_true rfl]
      have HB4 := Lib.hid (HB3.out.trans (hb4.mono hs3))
      have HT4 := Lib.hid (own_below' HT3.out hb4)
      have HV4 := Lib.hid (own_below' HV3.out hb4)
      have hs4 := HB4.out.size
      clear hb4
      go_wp2_with fail
      refine (sameCons_any w4 w4.heap.size A2 A3 0 0 c2 c3 [] [] (Nat.le_refl _) (OwnC.reads HT4.out) (OwnC.reads HV4.out) (by omega) (by omega)).mono ?_
      rintro e w5 ⟨rfl, hb5⟩
      rw [decide_eq_true rfl]
      have HB5 := Lib.hid (HB4.out.trans (hb5.mono hs4))
      clear hb5
      go_wp2
      go_ret
      exact ⟨rfl, HB5.out⟩
    | true =>
      have HS := Lib.hid hsat
      have HF := Lib.hid (thinO_yes hsat)
      have HIM := fun k h => thin_implies hsat (k := k) h
      have HAL := fun i h => thin_alone hsat (i := i) h
      have hsl := Cs.skip_len l (Cs.thinTo l l.length)
      rw [HF.out] at HT3 HV3 ⊢
      simp only [Option.getD_some, Option.isSome_some] at HT3 HV3 ⊢
      obtain ⟨L, hL⟩ : ∃ L, Cs.skip l (Cs.thinTo l l.length) = L := ⟨_, rfl⟩
      rw [hL] at HT3 HV3 HIM HAL hsl ⊢
      obtain ⟨M, hM⟩ : ∃ M, L.length = M := ⟨_, rfl⟩
      rw [hM] at HT3 HV3 HAL hsl ⊢
      rw [HLM.out] at hsl HIM
      have HIM' := Lib.hid HIM
      have HAL' := Lib.hid HAL
      have HML := Lib.hid hM
      clear hsat HF hL hM HIM HAL
      go_wp2_with fail
      refine (sameCons_any w3 w3.heap.size A2 A3 M M c2 c3 L L (Nat.le_refl _) (OwnC.reads HT3.out) (OwnC.reads HV3.out) (by omega) (by omega)).mono ?_
      rintro e w4 ⟨rfl, hb4⟩
      rw [decide_eq_true rfl]
      have HB4 := Lib.hid (HB3.out.trans (hb4.mono hs3))
      have HO4 := Lib.hid (own_below' HO3.out hb4)
      have HT4 := Lib.hid (own_below' HT3.out hb4)
      have hs4 := HB4.out.size
      clear hb4 HB3 HO3 HT3 HV3
      go_wp2
      go_loopw [8] (fun v wr => ∃ k : Nat, k ≤ m ∧ v = .int .i64 k ∧ Hid (Below w.heap.size w wr) ∧ Hid (OwnC wr w.heap.size (some ⟨g, 0, none⟩) m cap l) ∧ Hid (OwnC wr w.heap.size A2 M c2 L)) (fun v _ => m - (intOf v).toNat)
      case atStart => exact ⟨0, by omega, rfl, HB4.out, HO4.out, HT4.out⟩
      case round =>
        clear HB4 HO4 HT4
        obtain ⟨k, hk, rfl, HB4, HO4, HT4⟩ := hrel
        have hsr := HB4.out.size
        by_cases hlt : k < m
        · have hki : (k : Int) < (m : Int) := by omega
          have hc := HO4.out.cells (g := g) rfl
          have hat := conCells_at l k (by rw [HLM.out]; exact hlt)
          have c0 := hc _ _ hat.1
          have c1 := hc _ _ hat.2.1
          have c2' := hc _ _ hat.2.2
          rw [own_adds] at c0 c1 c2'
          have HX := Lib.hid (HIM'.out k hlt)
          obtain ⟨t, ht⟩ : ∃ t, l.getD k (0, 0, 0) = t := ⟨_, rfl⟩
          rw [ht] at c0 c1 c2' HX
          obtain ⟨U, R, V⟩ := t
          simp only at c0 c1 c2'
          clear hc hat ht
          go_wp2_with fail
          refine (implConsImply_any wr wr.heap.size A2 M c2 L U R V (Nat.le_refl _) (OwnC.reads HT4.out) (by omega)).mono ?_
          rintro e w5 ⟨rfl, hb5⟩
          rw [HX.out]
          have HB5 := Lib.hid (HB4.out.trans (hb5.mono hsr))
          have HO5 := Lib.hid (own_below' HO4.out hb5)
          have HT5 := Lib.hid (own_below' HT4.out hb5)
          clear hb5 c0 c1 c2' HB4 HO4 HT4
          go_wp2
          go_roundw
          case rel => exact ⟨k + 1, by omega, by go_num, HB5.out, HO5.out, HT5.out⟩
          case measure => simp [intOf]; omega
        · have hki : ¬ (k : Int) < (m : Int) := by omega
          clear HIM' HS HO4
          go_wp2
          go_loopw [9] (fun v wr => ∃ i : Nat, i ≤ M ∧ v = .int .i64 i ∧ Hid (Below w.heap.size w wr) ∧ Hid (OwnC wr w.heap.size A2 M c2 L)) (fun v _ => M - (intOf v).toNat)
          case atStart => exact ⟨0, by omega, rfl, HB4.out, HT4.out⟩
          case round =>
            clear HB4 HT4
            obtain ⟨i, hiM, rfl, HB4, HT4⟩ := hrel
            by_cases hlt2 : i < M
            · have hii : (i : Int) < (M : Int) := by omega
              obtain ⟨gt, rfl, hgt0, hMc⟩ : ∃ gt, A2 = some ⟨gt, 0, none⟩ ∧ gt < wr.heap.size ∧ M ≤ c2 := by
                rcases HT4.out.2 with ⟨h0, hq⟩ | ⟨gt, cp, cur, hv, _, _, hle, _⟩
                · omega
                · injection hv with e1 e2 e3
                  exact ⟨gt, e1, (HT4.out.lt gt (by rw [e1]; rfl)).2, by rw [e3]; exact hle⟩
              have hcells0 := HT4.out.cells (g := gt) rfl
              have hat := conCells_at L i (by rw [HML.out]; exact hlt2)
              have hsr2 := HB4.out.size
              have HNO := Lib.hid (HAL'.out i hlt2)
              obtain ⟨ct, hct⟩ : ∃ ct, c2 = ct := ⟨_, rfl⟩
              subst hct
              have HCE := Lib.hid hcells0
              obtain ⟨t, ht⟩ : ∃ t, L.getD i (0, 0, 0) = t := ⟨_, rfl⟩
              rw [ht] at hat HNO
              obtain ⟨U, R, V⟩ := t
              simp only at hat
              have HAT := Lib.hid hat
              clear hcells0 hat ht
              go_wp2_with fail
              obtain ⟨W, hW⟩ : ∃ W, wr.drew = W := ⟨_, rfl⟩
              have hbW : Below W.heap.size W wr.drew := by rw [hW]; exact Below.refl _ _
              have hgt : gt < W.heap.size := by rw [← hW]; exact hgt0
              have hcells : ∀ j u, (conCells L)[j]? = some u → W.cell? ((⟨gt, 0, none⟩ : Addr).add j) = some u := by rw [← hW]; exact HCE.out
              have hLM : L.length = M := HML.out
              have hc0 := hcells _ _ HAT.out.1
              have hc1 := hcells _ _ HAT.out.2.1
              have hc2 := hcells _ _ HAT.out.2.2
              rw [own_adds] at hc0 hc1 hc2
              have hM60 : M ≤ 60 := by omega
              rw [act_tm _ 84 rfl]
              refine region_slots2 84 _ (fun _ d f w' => PtsG 64 68 73 W L M i d f w') (fun j v _ => ThC gt c2 M i W L U R V j v) (fun _ _ => True) (by kernel_rfl) (by kernel_rfl) ⟨hbW, (fun e => by cases e), (fun e => by cases e), (fun e => by cases e)⟩ (fun _ _ _ _ _ hx => hx) (AllFrom.all (AllFrom.cons ?o0 (AllFrom.cons ?o1 (AllFrom.cons ?o2 (AllFrom.cons ?o3 (AllFrom.cons ?o4 (AllFrom.cons ?o5 (AllFrom.cons ?o6 (AllFrom.cons ?o7 (AllFrom.cons ?o8 (AllFrom.cons ?o9 (AllFrom.cons ?o10 (AllFrom.cons ?o11 (AllFrom.cons ?o12 (AllFrom.cons ?o13 (AllFrom.cons ?o14 AllFrom.nil)))))))))))))))) ?fin
              case o0 =>
                intro k d f w3 hk hun hcl hwt hG hf hC
                have d4 := not_fed (top := 4) (by kernel_rfl) hcl (i := 0) (by omega) hun
                have d9 := not_fed (top := 9) (by kernel_rfl) hcl (i := 0) (by omega) hun
                refine op_wp rfl rfl fun K' hK' => ?_
                go_simp
                exact hK' _ _ ⟨.slice (some ⟨w3.heap.size, 0, none⟩) 0 0, rfl, trivial, hG.first d4 d9, trivial⟩
              case o1 =>
                intro k d f w3 hk hun hcl hwt hG hf hC
                have e0 : (tm 84 f).tmps[4]?.getD undef = .slice (some ⟨gt, 0, none⟩) M c2 := (tm_get (by omega) f).trans (hf 4 (frame_of (by kernel_rfl)))
                refine op_wp rfl rfl fun K' hK' => ?_
                go_simp
                exact hK' _ _ ⟨_, rfl, trivial, hG.same (by decide) (by decide) (by decide) (by decide) (by decide) (by decide), rfl⟩
              case o2 =>
                intro k d f w3 hk hun hcl hwt hG hf hC
                have e0 : (tm 84 f).tmps[9]?.getD undef = .int .i64 (i : Int) := (tm_get (by omega) f).trans (hf 9 (frame_of (by kernel_rfl)))
                refine op_wp rfl rfl fun K' hK' => ?_
                go_simp
                exact hK' _ _ ⟨_, rfl, trivial, hG.same (by decide) (by decide) (by decide) (by decide) (by decide) (by decide), rfl⟩
              case o5 =>
                intro k d f w3 hk hun hcl hwt hG hf hC
                have e0 : (tm 84 f).tmps[4]?.getD undef = .slice (some ⟨gt, 0, none⟩) M c2 := (tm_get (by omega) f).trans (hf 4 (frame_of (by kernel_rfl)))
                refine op_wp rfl rfl fun K' hK' => ?_
                go_simp
                exact hK' _ _ ⟨_, rfl, trivial, hG.same (by decide) (by decide) (by decide) (by decide) (by decide) (by decide), rfl⟩
              case o6 =>
                intro k d f w3 hk hun hcl hwt hG hf hC
                have e0 : (tm 84 f).tmps[9]?.getD undef = .int .i64 (i : Int) := (tm_get (by omega) f).trans (hf 9 (frame_of (by kernel_rfl)))
                refine op_wp rfl rfl fun K' hK' => ?_
                go_simp
                exact hK' _ _ ⟨_, rfl, trivial, hG.same (by decide) (by decide) (by decide) (by decide) (by decide) (by decide), rfl⟩
              case o3 =>
                intro k d f w3 hk hun hcl hwt hG hf hC
                have e1 : (tm 84 f).tmps[65]?.getD undef = .slice (some ⟨gt, 0, none⟩) M c2 := (tm_get (by omega) f).trans (hC 1 (by kernel_rfl))
                have e2 : (tm 84 f).tmps[66]?.getD undef = .int .i64 (i : Int) := (tm_get (by omega) f).trans (hC 2 (by kernel_rfl))
                have hru := run_upto gt M c2 i (by omega) hMc
                refine op_wp rfl rfl fun K' hK' => ?_
                go_simp
                exact hK' _ _ ⟨_, rfl, trivial, hG.same (by decide) (by decide) (by decide) (by decide) (by decide) (by decide), rfl⟩
              case o4 =>
                intro k d f w3 hk hun hcl hwt hG hf hC
                have d9 := not_fed (top := 9) (by kernel_rfl) hcl (i := 4) (by omega) hun
                have d0 : d 0 = true := hwt 0 (by kernel_rfl)
                obtain ⟨q, hq, hown⟩ := hG.p0 d0 hun
                have e1 : (tm 84 f).eval (.tmp 64) = .slice (some ⟨q, 0, none⟩) 0 0 := (tm_eval (by omega) f).trans hq
                have e2 : (tm 84 f).eval (.tmp 67) = .slice (some ⟨gt, 0, none⟩) i c2 := (tm_eval (by omega) f).trans (hC 3 (by kernel_rfl))
                refine op_wp rfl rfl fun K' hK' => ?_
                refine wp_append_own w3 (.tmp 64) (.tmp 67) 24 rfl W.heap.size 34 i0 (.agg #[.int .i64 0, .int .i64 0, .int .i64 0]) 3 24 Try.underlying24 hi hz0 hz1 hz2 rfl (by decide) (.slice (some ⟨q, 0, none⟩) 0 0) 0 (conCells []) e1 hown ⟨gt, 0, none⟩ i c2 (conCells (L.take i)) e2 (by rw [conCells_len, List.length_take]; omega) (fun j u hu => (hG.bel.cell (by rw [own_adds]; exact hgt)).trans (hcells j u (conCells_take L i j u hu))) (conCells_one _) (by unfold maxLen; omega) (by omega) hG.bel.size ?_
                intro v' w5 hown' hgrow hnil
                obtain ⟨g5, c5, rfl⟩ : ∃ g' c', v' = .slice (some ⟨g', 0, none⟩) (i) c' := by
                  rcases hown'.2 with ⟨h0, _⟩ | ⟨g', c', _, h0, _⟩
                  · have := (hnil.1 h0).1
                    cases this
                  · rw [Nat.zero_add] at h0; exact ⟨g', c', h0⟩
                have hB5 : Below W.heap.size W w5 := hG.bel.grown hgrow hG.bel.size (fun k h => (hown.lt k h).1)
                have HO5 : OwnC w5 W.heap.size (some ⟨g5, 0, none⟩) i c5 (L.take i) := by
                  have h := hown'
                  rw [conCells_nil, List.nil_append, Nat.zero_add] at h
                  exact h
                exact hK' _ _ ⟨_, rfl, trivial, PtsG.second d9 hB5 HO5, trivial⟩
              case o7 =>
                intro k d f w3 hk hun hcl hwt hG hf hC
                have e1 : (tm 84 f).tmps[70]?.getD undef = .int .i64 (i : Int) := (tm_get (by omega) f).trans (hC 6 (by kernel_rfl))
                have hwr : IntKind.i64.wrap ((i : Int) + 1) = (i : Int) + 1 := IntWalk.i64_in _ ⟨by omega, by omega⟩
                refine op_wp rfl rfl fun K' hK' => ?_
                go_simp
                exact hK' _ _ ⟨_, rfl, trivial, hG.same (by decide) (by decide) (by decide) (by decide) (by decide) (by decide), rfl⟩
              case o8 =>
                intro k d f w3 hk hun hcl hwt hG hf hC
                have e1 : (tm 84 f).tmps[69]?.getD undef = .slice (some ⟨gt, 0, none⟩) M c2 := (tm_get (by omega) f).trans (hC 5 (by kernel_rfl))
                have e2 : (tm 84 f).tmps[71]?.getD undef = .int .i64 ((i : Int) + 1) := (tm_get (by omega) f).trans (hC 7 (by kernel_rfl))
                obtain ⟨A', hrf, hnews⟩ := run_from gt M c2 (i + 1) (by omega) hMc
                have hrf' : ∀ wx : World, (Instr.slice 24 (.slice (some ⟨gt, 0, none⟩) M c2) (some (.int .i64 ((i : Int) + 1))) none none).run Try.prog wx = .ok (.slice (some A') (M - (i + 1)) (c2 - (i + 1))) wx := by
                  intro wx
                  have := hrf wx
                  rw [show ((i + 1 : Nat) : Int) = (i : Int) + 1 by omega] at this
                  exact this
                have HN := Lib.hid hnews
                clear hrf hnews
                refine op_wp rfl rfl fun K' hK' => ?_
                go_simp
                exact hK' _ _ ⟨_, rfl, trivial, hG.same (by decide) (by decide) (by decide) (by decide) (by decide) (by decide), A', c2 - (i + 1), rfl, fun j u hu => HN.out W L hLM (fun j u h => by have := hcells j u h; rwa [own_adds] at this) j u hu⟩
              case o9 =>
                intro k d f w3 hk hun hcl hwt hG hf hC
                have d4 : d 4 = true := hwt 4 (by kernel_rfl)
                obtain ⟨q, cq, hq, hown⟩ := hG.p4 d4 hun
                obtain ⟨A', c', hv8, hnews⟩ := hC 8 (by kernel_rfl)
                have e1 : (tm 84 f).eval (.tmp 68) = .slice (some ⟨q, 0, none⟩) i cq := (tm_eval (by omega) f).trans hq
                have e2 : (tm 84 f).eval (.tmp 72) = .slice (some A') (M - (i + 1)) c' := (tm_eval (by omega) f).trans hv8
                refine op_wp rfl rfl fun K' hK' => ?_
                refine wp_append_own w3 (.tmp 68) (.tmp 72) 24 rfl W.heap.size 34 i0 (.agg #[.int .i64 0, .int .i64 0, .int .i64 0]) 3 24 Try.underlying24 hi hz0 hz1 hz2 rfl (by decide) (.slice (some ⟨q, 0, none⟩) i cq) i (conCells (L.take i)) e1 hown A' (M - (i + 1)) c' (conCells (L.drop (i + 1))) e2 (by rw [conCells_len, List.length_drop]; omega) (fun j u hu => (hG.bel.cell (World.block_lt_of_cell? W _ (hnews j u hu))).trans (hnews j u hu)) (conCells_one _) (by unfold maxLen; omega) (by omega) hG.bel.size ?_
                intro v' w5 hown' hgrow hnil
                obtain ⟨g5, c5, rfl⟩ : ∃ g' c', v' = .slice (some ⟨g', 0, none⟩) (M - 1) c' := by
                  rcases hown'.2 with ⟨h0, _⟩ | ⟨g', c', _, h0, _⟩
                  · have := (hnil.1 h0).1
                    cases this
                  · rw [show i + (M - (i + 1)) = M - 1 by omega] at h0; exact ⟨g', c', h0⟩
                have hB5 : Below W.heap.size W w5 := hG.bel.grown hgrow hG.bel.size (fun k h => (hown.lt k h).1)
                have hM1 : i + (M - (i + 1)) = M - 1 := by omega
                rw [hM1] at hown'
                have HO5 : OwnC w5 W.heap.size (some ⟨g5, 0, none⟩) (M - 1) c5 (L.eraseIdx i) := by
                  have h := hown'
                  rw [← conCells_append, ← List.eraseIdx_eq_take_drop_succ] at h
                  exact h
                exact hK' _ _ ⟨_, rfl, trivial, PtsG.third d4 hB5 HO5, trivial⟩
              case o10 =>
                intro k d f w3 hk hun hcl hwt hG hf hC
                have e0 : (tm 84 f).tmps[4]?.getD undef = .slice (some ⟨gt, 0, none⟩) M c2 := (tm_get (by omega) f).trans (hf 4 (frame_of (by kernel_rfl)))
                refine op_wp rfl rfl fun K' hK' => ?_
                go_simp
                exact hK' _ _ ⟨_, rfl, trivial, hG.same (by decide) (by decide) (by decide) (by decide) (by decide) (by decide), rfl⟩
              case o11 =>
                intro k d f w3 hk hun hcl hwt hG hf hC
                have e0 : (tm 84 f).tmps[9]?.getD undef = .int .i64 (i : Int) := (tm_get (by omega) f).trans (hf 9 (frame_of (by kernel_rfl)))
                refine op_wp rfl rfl fun K' hK' => ?_
                go_simp
                exact hK' _ _ ⟨_, rfl, trivial, hG.same (by decide) (by decide) (by decide) (by decide) (by decide) (by decide), rfl⟩
              case o12 =>
                intro k d f w3 hk hun hcl hwt hG hf hC
                have e1 : (tm 84 f).tmps[74]?.getD undef = .slice (some ⟨gt, 0, none⟩) M c2 := (tm_get (by omega) f).trans (hC 10 (by kernel_rfl))
                have e2 : (tm 84 f).tmps[75]?.getD undef = .int .i64 (i : Int) := (tm_get (by omega) f).trans (hC 11 (by kernel_rfl))
                have hiM : (i : Int) < (M : Int) := by omega
                refine op_wp rfl rfl fun K' hK' => ?_
                go_simp
                exact hK' _ _ ⟨_, rfl, trivial, hG.same (by decide) (by decide) (by decide) (by decide) (by decide) (by decide), rfl⟩
              case o13 =>
                intro k d f w3 hk hun hcl hwt hG hf hC
                have e1 : (tm 84 f).tmps[76]?.getD undef = .pointer (some ⟨gt, i * 3, none⟩) := (tm_get (by omega) f).trans (hC 12 (by kernel_rfl))
                have q0 := (hG.bel.cell (p := ⟨gt, i * 3, none⟩) hgt).trans hc0
                have q1 := (hG.bel.cell (p := ⟨gt, i * 3 + 1, none⟩) hgt).trans hc1
                have q2 := (hG.bel.cell (p := ⟨gt, i * 3 + 2, none⟩) hgt).trans hc2
                refine op_wp rfl rfl fun K' hK' => ?_
                go_simp
                exact hK' _ _ ⟨_, rfl, trivial, hG.same (by decide) (by decide) (by decide) (by decide) (by decide) (by decide), rfl⟩
              case o14 =>
                intro k d f w3 hk hun hcl hwt hG hf hC
                have h9 : d 9 = true := hwt 9 (by kernel_rfl)
                obtain ⟨q, cq, hq, hown⟩ := hG.p9 h9
                have e1 : (tm 84 f).tmps[73]?.getD undef = .slice (some ⟨q, 0, none⟩) (M - 1) cq := (tm_get (by omega) f).trans hq
                have e2 : (tm 84 f).tmps[77]?.getD undef = .agg #[.int .i64 U, .int .i64 R, .int .i64 V] := (tm_get (by omega) f).trans (hC 13 (by kernel_rfl))
                refine op_wp rfl rfl fun K' hK' => ?_
                go_simp
                refine (implConsImply_any w3 w3.heap.size (some ⟨q, 0, none⟩) (M - 1) cq (L.eraseIdx i) U R V (Nat.le_refl _) (OwnC.reads hown) (by omega)).mono ?_
                rintro e w4 ⟨rfl, hb4⟩
                rw [HNO.out]
                exact hK' _ _ ⟨_, rfl, trivial, hG.step hb4 (by decide) (by decide) (by decide) (by decide) (by decide) (by decide), rfl⟩
              case fin =>
                intro k2 d f w3 hk2 hall hG hf hC
                have e78 : f 78 = .bool false := hC 14 (by decide)
                have hfr : ∀ t, t ∉ [64, 65, 66, 67, 68, 69, 70, 71, 72, 73, 74, 75, 76, 77, 78] → f t = _ := fun t ht => hf t (covers_not (by kernel_rfl) ht)
                rw [tm_frame 84 f _ _ hfr, ← act_tm _ 84 rfl]
                have HB5 : Hid (Below w.heap.size w w3) := (HB4.out.drew).trans (by have := hG.bel; rw [← hW] at this; exact this.mono hsr2)
                have HT5 : Hid (OwnC w3 w.heap.size (some ⟨gt, 0, none⟩) M c2 L) := own_below' (show OwnC wr.drew w.heap.size (some ⟨gt, 0, none⟩) M c2 L from HT4.out) (by have := hG.bel; rw [← hW] at this; exact this)
                simp only [List.foldl_cons, List.foldl_nil, Act.put, List.setIfInBounds_toArray, List.set_cons_succ, List.set_cons_zero, e78]
                generalize f 64 = v64
                generalize f 65 = v65
                generalize f 66 = v66
                generalize f 67 = v67
                generalize f 68 = v68
                generalize f 69 = v69
                generalize f 70 = v70
                generalize f 71 = v71
                generalize f 72 = v72
                generalize f 73 = v73
                generalize f 74 = v74
                generalize f 75 = v75
                generalize f 76 = v76
                generalize f 77 = v77
                clear e78 hfr hG hf hC hall hcells hc0 hc1 hc2 hbW hW hLM
                go_wp2
                go_roundw
                case rel => exact ⟨i + 1, by omega, by go_num, HB5.out, HT5.out⟩
                case measure => simp [intOf]; omega
            · have hii : ¬ (i : Int) < (M : Int) := by omega
              have hMm : (M : Int) ≤ (m : Int) := by omega
              go_wp2
              go_ret
              exact ⟨rfl, HB4.out⟩
end Go.Proofs.Ytmmhcpigcdlnmaa
