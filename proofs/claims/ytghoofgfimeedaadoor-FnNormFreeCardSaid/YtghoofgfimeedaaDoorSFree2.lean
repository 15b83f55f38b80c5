/- NormFree of the reference model: the walk. -/
import Derived.Test.YtghoofgfimeedaaDoorSFree
import Derived.Deep.RegionLaw

namespace Go.Proofs.YtghoofgfimeedaaDoor
open Go.RowKit

theorem own_litA {w : World} {g base : Nat} {a b : Int} (h : Blk w g 67 #[.int .i64 a, .int .i64 b]) (hb : base ≤ g) : OwnA w base (some ⟨g, 0, none⟩) 1 1 [(a, b)] :=
  ⟨rfl, .inr ⟨g, 1, #[.int .i64 a, .int .i64 b], rfl, hb, h, Nat.le_refl _, by simp [maxLen], rfl, rfl⟩⟩
/-- the pile behind the first k tokens of a right level, none of them imax -/
theorem prun_pre {l : List (Int × Int)} (h : Lv.levelOk l = true) (k : Nat) (h3 : ∀ t ∈ l.take k, t.1 ≠ 3) : ∃ st, Nm.prun (l.take k) [] = some st := by
  simp only [Lv.levelOk, Bool.and_eq_true, decide_eq_true_eq] at h
  have e := Nm.prun_height h3 []
  have e2 := Lv.hts_append (l.take k) (l.drop k) 0
  rw [List.take_append_drop, h.2] at e2
  simp only [List.length_nil, Int.ofNat_zero] at e
  cases hq : Nm.prun (l.take k) [] with
  | none =>
    rw [hq] at e
    have e' : Lv.hts (l.take k) 0 = none := e.symm
    rw [e'] at e2
    cases e2
  | some s => exact ⟨s, rfl⟩
theorem no3_step {l : List (Int × Int)} {k : Nat} (hk : k < l.length) (h3 : ∀ t ∈ l.take k, t.1 ≠ 3) (ht : (l.getD k (0, 0)).1 ≠ 3) : ∀ t ∈ l.take (k + 1), t.1 ≠ 3 := by
  intro t hm
  rw [List.take_succ_eq_append_getElem hk] at hm
  rcases List.mem_append.1 hm with h | h
  · exact h3 t h
  · have e : t = l[k] := by simpa using h
    rw [List.getD_eq_getElem?_getD, List.getElem?_eq_getElem hk] at ht
    rw [e]
    exact ht
theorem fine_small {a : List (Int × Int)} (h : Nm.AllOk a) : Small a := by
  intro j hj
  have := (h.mem (Nm.mem_getD hj)).2.2
  omega
theorem norm_allOk {a : List (Int × Int)} (h0 : a ≠ []) (h : Nm.AllOk a) : Nm.AllOk (Nm.norm a) := (Nm.norm_ok h0 h).2.1

set_option maxRecDepth 100000 in
set_option maxHeartbeats 6400000 in
theorem specNormFree_any (w : World) (B : Nat) (A : Option Addr) (n c : Nat) (l : List (Int × Int)) (hB : B ≤ w.heap.size) (hl : TokR w B A n l) (hn : (n : Int) ≤ 140737488355328) :
    Calls Tryd.prog 17 #[.slice A n c] w (ResA w (Nm.freeR l)) := by
  obtain ⟨i0, hi, hz0, hz1, hz2⟩ := info_parts info_atom
  obtain ⟨j0, ji, jz0, jz1, jz2⟩ := info_parts info_atoms
  cases h1 : Lv.levelOk l with
  | false =>
    have HF : Hid (Nm.freeR l = none) := freeR_no (fun h => by rw [h1] at h; cases h.1)
    have HO := Lib.hid h1
    clear h1
    go_enter Tryd.func17, Tryd.ntmps17
    go_wp2_with fail
    refine (specOk_any w B A n c l hB hl hn).mono ?_
    rintro e w1 ⟨rfl, hb1⟩
    rw [HO.out]
    go_wp2
    go_ret2
    rw [HF.out]
    exact resA_none hb1
  | true =>
    have HO := Lib.hid h1
    have hn24 : n ≤ 24 := by rw [← hl.1]; exact (ok_lenN h1).2
    have hn1 : 1 ≤ n := by rw [← hl.1]; exact (ok_lenN h1).1
    clear h1
    go_enter Tryd.func17, Tryd.ntmps17
    go_wp2_with fail
    refine (specOk_any w B A n c l hB hl hn).mono ?_
    rintro e w1 ⟨rfl, hb1⟩
    rw [HO.out]
    have HP0 : Hid (PileD (w1.alloc (.cells #[] 26)) w.heap.size w1.heap.size 0 0 []) := ⟨rfl, [], World.ownsRow_made w1 #[] 0 hb1.size (by simp [maxLen]) (by simp), fun i a ha => by simp at ha⟩
    have HB1 := Lib.hid (hb1.alloc hb1.size (.cells #[] 26))
    clear hb1
    go_wp2
    go_loopw [4, 5] (fun v i wr => ∃ (k : Nat) (st : List (List (Int × Int))) (g D c4 : Nat), k ≤ n ∧ i = .int .i64 k ∧ Hid (Nm.prun (l.take k) [] = some st) ∧ Hid (∀ t ∈ l.take k, t.1 ≠ 3) ∧ v = .slice (some ⟨g, 0, none⟩) D c4 ∧ Hid (PileD wr w.heap.size g D c4 (st.map Nm.norm)) ∧ Below w.heap.size w wr) (fun _ i _ => n - (intOf i).toNat)
    case atStart => exact ⟨0, [], w1.heap.size, 0, 0, Nat.zero_le _, rfl, Lib.hid rfl, Lib.hid (fun t ht => by simp at ht), rfl, HP0, HB1.out⟩
    case round =>
      obtain ⟨k, st, g, D, c4, hk, rfl, HR, H3, rfl, HP, hbel⟩ := hrel
      have hszr := hbel.size
      have hDl : st.length = D := by have := HP.out.1; rw [List.length_map] at this; exact this
      have hdl := Nm.len_run HR.out
      rw [List.length_take] at hdl
      have hD24 : D ≤ 24 := by omega
      by_cases hlt : k < n
      · obtain ⟨b, off, rfl, hb, hc⟩ := hl.2 (by omega)
        obtain ⟨x1, x2⟩ := hc k hlt
        have hkl : k < l.length := by rw [hl.1]; exact hlt
        obtain ⟨t, ht⟩ : ∃ t, l.getD k (0, 0) = t := ⟨_, rfl⟩
        have hmem : t ∈ l := by
          rw [← ht, List.getD_eq_getElem?_getD, List.getElem?_eq_getElem hkl]
          exact List.getElem_mem hkl
        have k1 := (hbel.cell (p := ⟨b, off + k * 2, none⟩) (by show b < _; omega)).trans x1
        have k2 := (hbel.cell (p := ⟨b, off + k * 2 + 1, none⟩) (by show b < _; omega)).trans x2
        rw [ht] at k1 k2
        have hki : (k : Int) < (n : Int) := by omega
        by_cases e3 : t.1 = 3
        · have HF : Hid (Nm.freeR l = none) := freeR_no (fun h => h.2 t hmem e3)
          obtain ⟨op, y⟩ := t
          obtain rfl : op = 3 := e3
          clear x1 x2 hc ht hmem hl
          go_wp2
          go_ret2
          rw [HF.out]
          exact resA_none hbel
        · have HN3 := Lib.hid (no3_step hkl H3.out (by rw [ht]; exact e3))
          obtain ⟨st', hst'⟩ := prun_pre HO.out (k + 1) HN3.out
          have HR' := Lib.hid hst'
          have hps : Nm.pstep (l.getD k (0, 0)) st = some st' := by
            have h := Nm.prun_take_succ l k hkl []
            rw [hst', HR.out] at h
            exact h.symm
          have hfine := Nm.fine_run HR.out
          rw [List.length_take] at hfine
          rw [ht] at hps
          have htk := pstep_ok hps
          obtain ⟨op, y⟩ := t
          have HL := Lib.hid hl
          have HBL := Lib.hid hbel
          clear x1 x2 hc ht hst' hl hdl hkl hbel hmem
          rcases Lv.tk_cases htk with e | e | e | e | e
          · obtain rfl : op = 0 := e
            obtain rfl := pstep_zero hps
            obtain ⟨hD, vals, h2, h3⟩ := (HP.out.alloc (.cells #[.int .i64 (-1), .int .i64 0] 67)).alloc (.cells #[.slice (some ⟨wr.heap.size, 0, none⟩) 1 1] 26)
            have hel : OwnA ((wr.alloc (.cells #[.int .i64 (-1), .int .i64 0] 67)).alloc (.cells #[.slice (some ⟨wr.heap.size, 0, none⟩) 1 1] 26)) w.heap.size (some ⟨wr.heap.size, 0, none⟩) 1 1 [(-1, 0)] := own_litA ((Blk.made wr _ _).alloc _) hszr
            have hba := (HBL.out.alloc hszr (.cells #[.int .i64 (-1), .int .i64 0] 67)).alloc (by simp; omega) (.cells #[.slice (some ⟨wr.heap.size, 0, none⟩) 1 1] 26)
            have HN1 := Lib.hid (norm_one (p := -1) (by omega) (by omega))
            clear hps htk e3 hfine
            go_wp2_with (at_builtin; refine wpList_append_own _ rfl (.tmp 26) (.tmp 29) 65 rfl w.heap.size 26 j0 (.slice none 0 0) 1 24 Tryd.underlying65 ji jz0 jz1 jz2 rfl (by decide) (.slice (some ⟨g, 0, none⟩) D c4) D vals rfl h2 ⟨wr.heap.size + 1, 0, none⟩ 1 1 [.slice (some ⟨wr.heap.size, 0, none⟩) 1 1] rfl rfl (news_one _ _ _ _) (fun u hu => by simp at hu; subst hu; rfl) (by unfold maxLen; omega) (by omega) (by simp; omega) ?_
                         intro v' w3 hown' hgrow hnil
                         obtain ⟨g', c', rfl, hp3⟩ := PileD.push (a := [(-1, 0)]) hD h2 h3 hel hgrow hown'
                         have HP3 := Lib.hid hp3
                         have HB3 : Hid (Below w.heap.size w w3) := hba.grown hgrow (by simp; omega) (fun k h => (h2.lt k h).1)
                         clear hown' hgrow hnil hp3 h2 h3 hel hba)
            go_wp2
            go_roundw
            case rel => exact ⟨k + 1, [(-1, 0)] :: st, g', D + 1, c', by omega, by go_num, HR', HN3, rfl, Lib.hid (by rw [List.map_cons, HN1.out]; exact HP3.out), HB3.out⟩
            case measure => simp [intOf]; omega
          · obtain rfl : op = 1 := e
            obtain ⟨a, s, rfl, rfl⟩ := pstep_succ hps
            obtain ⟨d, rfl⟩ : ∃ d, D = d + 1 := ⟨s.length, by rw [← hDl]; rfl⟩
            have hsd : s.length = d := by simpa using hDl
            have hfa := hfine a (by simp)
            have hoka := hfine.allOk (by omega) (a := a) (by simp)
            have HUN := Lib.hid (Nm.up_norm 1 (by omega) hoka)
            have HSM := Lib.hid (fine_small (norm_allOk hfa.1 hoka))
            have hl6 := Nm.norm_len a
            obtain ⟨ga, ca, q1, q2⟩ := HP.out.at (i := d) (a := Nm.norm a) (by rw [List.map_cons, List.reverse_cons, List.getElem?_append_right (by simp [hsd]), List.length_reverse, List.length_map, hsd, Nat.sub_self]; rfl)
            obtain ⟨La, hLa⟩ : ∃ La, (Nm.norm a).length = La := ⟨_, rfl⟩
            rw [hLa] at q1 q2 hl6
            have HLU : Hid ((Nm.norm (Nm.up 1 a)).length = La) := by show _ = _; rw [← HUN.out, up_len]; exact hLa
            have HQ2 := Lib.hid q2
            clear hps htk e3 hfine hfa hoka q2 hLa
            go_wp2_with fail
            refine (specUp_any wr wr.heap.size _ La ca (Nm.norm a) 1 (Nat.le_refl _) (OwnA.reads HQ2.out) (by omega) HSM.out (by omega) (by omega)).mono ?_
            rintro e w3 ⟨gu, cu, rfl, hou, hb3⟩
            rw [HUN.out] at hou
            have hp3 := HP.out.below hb3
            have hgd := (hp3.2).elim (fun vals h => (h.1.lt g rfl))
            have HPT := Lib.hid (PileD.top hp3 (a' := Nm.norm (Nm.up 1 a)) (ga := gu) (ca := cu) (by rw [HLU.out]; exact own_base hou hszr))
            have hb03 := HBL.out.trans (hb3.mono hszr)
            have HB3 := Lib.hid (hb03.setCell (p := ⟨g, d, none⟩) hgd.1 (.slice (some ⟨gu, 0, none⟩) La cu))
            have k3 := (hb3.cell (p := ⟨g, d, none⟩) (World.block_lt_of_cell? wr _ q1)).trans q1
            have f3 : w3.frozen? ⟨g, d, none⟩ = false := by
              obtain ⟨_, vals, h, _⟩ := hp3
              obtain ⟨cs, hblk⟩ := own_blk h g rfl
              exact hblk.thawed d
            rw [HLU.out] at HPT
            clear hb3 hou hp3 hgd hb03 q1
            go_wp2
            go_roundw
            case rel => exact ⟨k + 1, Nm.up 1 a :: s, g, d + 1, c4, by omega, by go_num, HR', HN3, rfl, HPT, HB3.out⟩
            case measure => simp [intOf]; omega
          · obtain rfl : op = 2 := e
            obtain ⟨a, b2, s, rfl, rfl⟩ := pstep_max hps
            obtain ⟨d, rfl⟩ : ∃ d, D = d + 2 := ⟨s.length, by rw [← hDl]; rfl⟩
            have hsd : s.length = d := by simpa using hDl
            have hfa := hfine a (by simp)
            have hfb := hfine b2 (by simp)
            have hoka := hfine.allOk (by omega) (a := a) (by simp)
            have hokb := hfine.allOk (by omega) (a := b2) (by simp)
            have HJ := Lib.hid (Nm.norm_join hoka hokb)
            have ha1 : 1 ≤ (Nm.norm a).length := (Nm.norm_ok hfa.1 hoka).1
            have hb1' : 1 ≤ (Nm.norm b2).length := (Nm.norm_ok hfb.1 hokb).1
            have ha6 := Nm.norm_len a
            have hb6 := Nm.norm_len b2
            have hm6 := Nm.norm_len (a ++ b2)
            obtain ⟨ga, ca, qa1, qa2⟩ := HP.out.at (i := d) (a := Nm.norm a) (by rw [List.map_cons, List.map_cons, List.reverse_cons, List.reverse_cons, List.append_assoc, List.getElem?_append_right (by simp [hsd]), List.length_reverse, List.length_map, hsd, Nat.sub_self]; rfl)
            obtain ⟨gb, cb, qb1, qb2⟩ := HP.out.at (i := d + 1) (a := Nm.norm b2) (by rw [List.map_cons, List.map_cons, List.reverse_cons, List.getElem?_append_right (by simp [hsd]), List.length_reverse, List.length_cons, List.length_map, hsd, Nat.sub_self]; rfl)
            have hcla := tokCells_len (Nm.norm a)
            have hclb := tokCells_len (Nm.norm b2)
            obtain ⟨La, hLa⟩ : ∃ La, (Nm.norm a).length = La := ⟨_, rfl⟩
            obtain ⟨Lb, hLb⟩ : ∃ Lb, (Nm.norm b2).length = Lb := ⟨_, rfl⟩
            obtain ⟨Lm, hLm⟩ : ∃ Lm, (Nm.norm (a ++ b2)).length = Lm := ⟨_, rfl⟩
            rw [hLa] at qa1 qa2 ha6 ha1 hcla
            rw [hLb] at qb1 qb2 hb6 hb1' hclb
            rw [hLm] at hm6
            have HLM := Lib.hid hLm
            have hgw := World.block_lt_of_cell? wr _ qa1
            have hgw' : g < wr.heap.size := hgw
            have HOW0 : Hid (OwnA (wr.alloc (.cells #[] 67)) wr.heap.size (some ⟨wr.heap.size, 0, none⟩) 0 0 []) := World.ownsRow_made wr #[] 0 (Nat.le_refl _) (by simp [maxLen]) (by simp)
            have HB0 : Hid (Below wr.heap.size wr (wr.alloc (.cells #[] 67)).drew) := ((Below.refl _ _).alloc (Nat.le_refl _) _).drew
            have HOA := Lib.hid qa2
            have HOB := Lib.hid qb2
            have HQA := Lib.hid qa1
            have HQB := Lib.hid qb1
            have hw2 : IntKind.i64.wrap ((d : Int) + 2 - 2) = (d : Int) := by rw [IntKind.wrap_i64]; omega
            have hw1 : IntKind.i64.wrap ((d : Int) + 2 - 1) = (d : Int) + 1 := by rw [IntKind.wrap_i64]; omega
            have hw3 : IntKind.i64.wrap (d : Int) = (d : Int) := by rw [IntKind.wrap_i64]; omega
            have hw4 : IntKind.i64.wrap ((d : Int) + 1) = (d : Int) + 1 := by rw [IntKind.wrap_i64]; omega
            have hcap : d + 2 ≤ c4 := by
              obtain ⟨_, vals, hh, _⟩ := HP.out
              rcases hh.2 with ⟨h0, _⟩ | ⟨g', cap', cur, hv, hb, hgg, q1, q2, q3, q4⟩
              · cases h0
              · injection hv with e1 e2 e3
                omega
            have hld : ∀ ob, (wr.alloc ob).cell? ⟨g, d, none⟩ = some (.slice (some ⟨ga, 0, none⟩) La ca) := fun ob => (((Below.refl wr.heap.size wr).alloc (Nat.le_refl _) ob).cell (p := ⟨g, d, none⟩) hgw').trans HQA.out
            have hld2 : ∀ ob, (wr.alloc ob).cell? ⟨g, d + 1, none⟩ = some (.slice (some ⟨gb, 0, none⟩) Lb cb) := fun ob => (((Below.refl wr.heap.size wr).alloc (Nat.le_refl _) ob).cell (p := ⟨g, d + 1, none⟩) hgw').trans HQB.out
            have n1 : (0 : Int) ≤ (d : Int) := by omega
            have n2 : (d : Int) ≤ (c4 : Int) := by omega
            have n3 : (0 : Int) ≤ (d : Int) + 1 := by omega
            have n4 : (d : Int) < (d : Int) + 2 := by omega
            have n5 : (d : Int) + 1 < (d : Int) + 2 := by omega
            have n6 : ((d : Int) + 1).toNat = d + 1 := by omega
            have n7 : d ≤ c4 := by omega
            clear hps htk e3 hfine hfa hfb hoka hokb qa2 qb2 hLa hLb hLm hgw hDl
            go_wp2_with fail
            go_region_law (first
                | (refine step_append_own _ (by rfl) _ _ _ (by rfl) wr.heap.size 67 i0 _ 2 16 Tryd.underlying26 hi hz0 hz1 hz2 rfl (by omega) (.slice (some ⟨wr.heap.size, 0, none⟩) 0 0) 0 (tokCells []) (by rfl) ?hown ⟨ga, 0, none⟩ La ca (tokCells (Nm.norm a)) (by rfl) hcla ?hnews (tokCells_one _) (by unfold maxLen; omega) (by omega) ?hbase ?_
                   case hown => exact HOW0.out
                   case hnews => exact fun j u hu => (own_below' HOA.out HB0.out).cells (g := ga) rfl j u hu
                   case hbase => simp
                   intro v1 w1' hown1 hgrow1 hnil1
                   rw [tokCells_nil, List.nil_append, Nat.zero_add] at hown1
                   obtain ⟨g1, d1, rfl⟩ := own_form hown1 (by omega)
                   have hB1 : Below wr.heap.size wr w1' := HB0.out.grown hgrow1 (by simp) (fun k h => by have h' : wr.heap.size = k := (by simpa [Value.ownBlock] using h); omega)
                   have s1a := (hB1.cell (p := ⟨g, d, none⟩) hgw').trans HQA.out
                   have s1b := (hB1.cell (p := ⟨g, d + 1, none⟩) hgw').trans HQB.out
                   have hsz1 := hB1.size)
                | (refine step_append_own _ (by rfl) _ _ _ (by rfl) wr.heap.size 67 i0 _ 2 16 Tryd.underlying26 hi hz0 hz1 hz2 rfl (by omega) (.slice (some ⟨g1, 0, none⟩) La d1) La (tokCells (Nm.norm a)) (by rfl) ?hown ⟨gb, 0, none⟩ Lb cb (tokCells (Nm.norm b2)) (by rfl) hclb ?hnews (tokCells_one _) (by unfold maxLen; omega) (by omega) ?hbase ?_
                   case hown => exact hown1
                   case hnews => exact fun j u hu => (own_below' HOB.out hB1).cells (g := gb) rfl j u hu
                   case hbase => exact hsz1
                   intro v2 w2' hown2 hgrow2 hnil2
                   obtain ⟨g2, d2, rfl⟩ := own_form hown2 (by omega)
                   have hB2 : Below wr.heap.size wr w2' := hB1.grown hgrow2 hsz1 (fun k h => (hown1.lt k h).1)
                   have ho2 : OwnA w2' wr.heap.size (some ⟨g2, 0, none⟩) (La + Lb) d2 (Nm.norm a ++ Nm.norm b2) := by
                     unfold OwnA
                     rw [tokCells_append]
                     exact hown2
                   have s2a := (hB2.cell (p := ⟨g, d, none⟩) hgw').trans HQA.out
                   have s2b := (hB2.cell (p := ⟨g, d + 1, none⟩) hgw').trans HQB.out
                   have hsz2 := hB2.size)
                | (go_simp
                   go_at_call 61
                   refine (specNorm_any w2' w2'.heap.size _ (La + Lb) d2 (Nm.norm a ++ Nm.norm b2) (Nat.le_refl _) (OwnA.reads ho2) (by omega)).mono ?_
                   rintro e w3 ⟨gm, dm, rfl, hom, hb3⟩
                   rw [HJ.out, HLM.out] at hom
                   rw [HJ.out, HLM.out]
                   have hB3 : Below wr.heap.size wr w3 := hB2.trans (hb3.mono hsz2)
                   have s3a := (hB3.cell (p := ⟨g, d, none⟩) hgw').trans HQA.out
                   have s3b := (hB3.cell (p := ⟨g, d + 1, none⟩) hgw').trans HQB.out
                   have hsz3 := hB3.size
                   have hpd := ((HP.out.below hB3).alloc (.cells #[.slice (some ⟨gm, 0, none⟩) Lm dm] 26)).drop 2 (by omega)
                   obtain ⟨hD4, vals4, h24, h34⟩ := hpd)
                | (refine step_append_own _ (by rfl) _ _ _ (by rfl) w.heap.size 26 j0 _ 1 24 Tryd.underlying65 ji jz0 jz1 jz2 rfl (by omega) (.slice (some ⟨g, 0, none⟩) d c4) d vals4 (by rfl) ?hown ⟨w3.heap.size, 0, none⟩ 1 1 [.slice (some ⟨gm, 0, none⟩) Lm dm] (by rfl) rfl ?hnews (fun u hu => by simp at hu; subst hu; rfl) (by unfold maxLen; omega) (by omega) ?hbase ?_
                   case hown => exact h24
                   case hnews => exact cell_one_new _ _ _
                   case hbase => simp; omega
                   intro v5 w5 hown5 hgrow5 hnil5
                   have hpush := PileD.push (a := Nm.norm (a ++ b2)) (ga := gm) (ca := dm) hD4 h24 h34 (by rw [HLM.out]; exact World.ownsRow.alloc (own_base hom (Nat.le_trans hszr hsz2)) _) hgrow5 (by rw [HLM.out]; exact hown5)
                   have hB5 : Below w.heap.size w w5 := ((HBL.out.trans (hB3.mono hszr)).alloc (Nat.le_trans hszr hsz3) (.cells #[.slice (some ⟨gm, 0, none⟩) Lm dm] 26)).grown hgrow5 (by simp; omega) (fun k h => (h24.lt k h).1)))
            all_goals
              obtain ⟨g5, c5, rfl, hp5⟩ := hpush
              have HP5 := Lib.hid hp5
              have HB5 := Lib.hid hB5
              clear hp5 hB5 hown5 hgrow5 hnil5 hown1 hgrow1 hnil1 hB1 s1a s1b hown2 hgrow2 hnil2 hB2 s2a s2b ho2 hom hb3 hB3 s3a s3b hD4 h24 h34 hw1 hw2 hw3 hw4 n1 n2 n3 n4 n5 n6 n7
              go_wp2
              go_roundw
              case rel => exact ⟨k + 1, (a ++ b2) :: s, g5, d + 1, c5, by omega, by go_num, HR', HN3, rfl, HP5, HB5.out⟩
              case measure => simp [intOf]; omega
          · exact absurd e e3
          · obtain rfl : op = 4 := e
            obtain rfl := pstep_par hps
            have hy : -1 ≤ y ∧ y < 5 := by simp [Lv.tkOk] at htk; omega
            obtain ⟨hD, vals, h2, h3⟩ := (HP.out.alloc (.cells #[.int .i64 y, .int .i64 0] 67)).alloc (.cells #[.slice (some ⟨wr.heap.size, 0, none⟩) 1 1] 26)
            have hel : OwnA ((wr.alloc (.cells #[.int .i64 y, .int .i64 0] 67)).alloc (.cells #[.slice (some ⟨wr.heap.size, 0, none⟩) 1 1] 26)) w.heap.size (some ⟨wr.heap.size, 0, none⟩) 1 1 [(y, 0)] := own_litA ((Blk.made wr _ _).alloc _) hszr
            have hba := (HBL.out.alloc hszr (.cells #[.int .i64 y, .int .i64 0] 67)).alloc (by simp; omega) (.cells #[.slice (some ⟨wr.heap.size, 0, none⟩) 1 1] 26)
            have HN1 := Lib.hid (norm_one (p := y) hy.1 hy.2)
            clear hps htk e3 hfine hy
            go_wp2_with (at_builtin; refine wpList_append_own _ rfl (.tmp 33) (.tmp 41) 65 rfl w.heap.size 26 j0 (.slice none 0 0) 1 24 Tryd.underlying65 ji jz0 jz1 jz2 rfl (by decide) (.slice (some ⟨g, 0, none⟩) D c4) D vals rfl h2 ⟨wr.heap.size + 1, 0, none⟩ 1 1 [.slice (some ⟨wr.heap.size, 0, none⟩) 1 1] rfl rfl (news_one _ _ _ _) (fun u hu => by simp at hu; subst hu; rfl) (by unfold maxLen; omega) (by omega) (by simp; omega) ?_
                         intro v' w3 hown' hgrow hnil
                         obtain ⟨g', c', rfl, hp3⟩ := PileD.push (a := [(y, 0)]) hD h2 h3 hel hgrow hown'
                         have HP3 := Lib.hid hp3
                         have HB3 : Hid (Below w.heap.size w w3) := hba.grown hgrow (by simp; omega) (fun k h => (h2.lt k h).1)
                         clear hown' hgrow hnil hp3 h2 h3 hel hba)
            go_wp2
            go_roundw
            case rel => exact ⟨k + 1, [(y, 0)] :: st, g', D + 1, c', by omega, by go_num, HR', HN3, rfl, Lib.hid (by rw [List.map_cons, HN1.out]; exact HP3.out), HB3.out⟩
            case measure => simp [intOf]; omega
      · obtain rfl : k = n := by omega
        have htl : l.take k = l := List.take_of_length_le (by rw [hl.1]; exact Nat.le_refl _)
        have h3 := H3.out
        rw [htl] at h3
        obtain ⟨a, ha⟩ := Nm.prun_one HO.out h3
        have hst : st = [a] := by
          have h := HR.out
          rw [htl, ha] at h
          injection h with h
          exact h.symm
        subst hst
        have HF : Hid (Nm.freeR l = some (Nm.norm (Nm.leafs l))) := freeR_yes ⟨HO.out, h3⟩
        have HLF := Lib.hid (leafs_of ha)
        obtain rfl : 1 = D := hDl
        obtain ⟨ga, ca, q1, q2⟩ := HP.out.at (i := 0) (a := Nm.norm a) rfl
        obtain ⟨La, hLa⟩ : ∃ La, (Nm.norm a).length = La := ⟨_, rfl⟩
        rw [hLa] at q1 q2
        have HQ2 := Lib.hid q2
        have HLA := Lib.hid hLa
        clear q2 hLa ha h3 htl
        go_wp2
        go_ret2
        rw [HF.out, HLF.out]
        exact ⟨some ⟨ga, 0, none⟩, ca, by simp only [Option.getD_some, HLA.out]; rfl, by simp only [Option.getD_some, HLA.out]; exact HQ2.out, hbel⟩
end Go.Proofs.YtghoofgfimeedaaDoor
