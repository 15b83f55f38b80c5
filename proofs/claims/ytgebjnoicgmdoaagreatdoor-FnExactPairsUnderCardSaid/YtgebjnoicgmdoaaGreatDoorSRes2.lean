/- Residual of the reference model (written by tools/mksres2.py). -/
import Derived.Test.YtgebjnoicgmdoaaGreatDoorWImax
import Derived.Test.YtgebjnoicgmdoaaGreatDoorSFree
import Derived.Test.YtgebjnoicgmdoaaGreatDoorSlc

namespace Go.Proofs.YtgebjnoicgmdoaaGreatDoor
open Go.RowKit

/-- atoms and whether there are any -/
def ResO (w : World) (r : Option (List (Int × Int))) (e : Ending) (w' : World) : Prop :=
  ∃ A c, e = .returned (.tuple #[.slice A (r.getD []).length c, .bool r.isSome]) ∧ OwnO w' w.heap.size A (r.getD []).length c (tokCells (r.getD [])) ∧ Below w.heap.size w w'
theorem resO_none {w w' : World} (h : Below w.heap.size w w') : ResO w none (.returned (.tuple #[.slice none 0 0, .bool false])) w' :=
  ⟨none, 0, rfl, ⟨rfl, .inl ⟨rfl, rfl, rfl⟩⟩, h⟩
theorem own_litO {w : World} {g base : Nat} {a b : Int} (h : Blk w g 92 #[.int .i64 a, .int .i64 b]) (hb : base ≤ g) : OwnA w base (some ⟨g, 0, none⟩) 1 1 [(a, b)] :=
  ⟨rfl, .inr ⟨g, 1, #[.int .i64 a, .int .i64 b], rfl, hb, h, Nat.le_refl _, by simp [maxLen], rfl, rfl⟩⟩
theorem small_of {a : List (Int × Int)} (h : Nm.AllOk a) : Small a := by
  intro j hj
  have := (h.mem (Nm.mem_getD hj)).2.2
  omega
theorem rnorm_one {p : Int} (h0 : -1 ≤ p) (h5 : p < 5) : Nm.rnorm [(p, 0)] = [(p, 0)] := by
  rcases (show p = -1 ∨ p = 0 ∨ p = 1 ∨ p = 2 ∨ p = 3 ∨ p = 4 by omega) with rfl | rfl | rfl | rfl | rfl | rfl <;> decide
theorem residR_no {s : Int} {l : List (Int × Int)} (h : ¬ (Lv.levelOk l = true ∧ Sg.isSign s = true)) : Nm.residR s l = none := if_neg h
theorem residR_yes {s : Int} {l : List (Int × Int)} (h : Lv.levelOk l = true ∧ Sg.isSign s = true) : Nm.residR s l = some (Nm.rnorm (Nm.wl s l)) := if_pos h
theorem ok_lenO {l : List (Int × Int)} (h : Lv.levelOk l = true) : 1 ≤ l.length ∧ l.length ≤ 24 := by
  simp only [Lv.levelOk, Bool.and_eq_true, decide_eq_true_eq] at h
  exact h.1
theorem wlen_run {s : Int} {l : List (Int × Int)} {st : List (List (Int × Int))} (h : Nm.wrun s l [] = some st) : st.length ≤ l.length := by
  have h1 := Nm.wrun_height (s := s) (l := l) []
  rw [h] at h1
  have key : ∀ (l : List (Int × Int)) (n m : Int), Lv.hts l n = some m → m ≤ n + l.length := by
    intro l
    induction l with
    | nil => intro n m h; simp only [Lv.hts] at h; injection h with h; subst h; simp
    | cons t r ih =>
      intro n m h
      simp only [Lv.hts] at h
      split at h
      · have := ih _ _ h
        have := Lv.takes_bd t.1
        rw [List.length_cons]
        omega
      · cases h
  have := key l 0 st.length (by simpa using h1.symm)
  omega

set_option maxRecDepth 100000 in
set_option maxHeartbeats 6400000 in
theorem specResidual_any (w : World) (B : Nat) (A : Option Addr) (n c : Nat) (l : List (Int × Int)) (s : Int) (hB : B ≤ w.heap.size) (hl : TokR w B A n l) (hn : (n : Int) ≤ 140737488355328) :
    Calls Tryz.prog 101 #[.slice A n c, .int .i64 s] w (ResO w (Nm.residR s l)) := by
  obtain ⟨i0, hi, hz0, hz1, hz2⟩ := info_parts info_atom
  obtain ⟨j0, ji, jz0, jz1, jz2⟩ := info_parts info_atoms
  cases h1 : Lv.levelOk l with
  | false =>
    have HF : Hid (Nm.residR s l = none) := residR_no (fun h => by rw [h1] at h; cases h.1)
    have HO := Lib.hid h1
    clear h1
    go_enter Tryz.func101, Tryz.ntmps101
    go_wp2_with fail
    refine (specOk_any w B A n c l hB hl hn).mono ?_
    rintro e w1 ⟨rfl, hb1⟩
    rw [HO.out]
    go_wp2
    go_ret2
    rw [HF.out]
    exact resO_none hb1
  | true =>
  cases hs : Sg.isSign s with
  | false =>
    have HF : Hid (Nm.residR s l = none) := residR_no (fun h => by rw [hs] at h; cases h.2)
    have HO := Lib.hid h1
    clear h1
    go_enter Tryz.func101, Tryz.ntmps101
    go_wp2_with fail
    refine (specOk_any w B A n c l hB hl hn).mono ?_
    rintro e w1 ⟨rfl, hb1⟩
    rw [HO.out]
    go_wp2_with fail
    refine (l03Sign_any w1 s).mono ?_
    rintro e w' ⟨rfl, rfl⟩
    rw [hs]
    go_wp2
    go_ret2
    rw [HF.out]
    exact resO_none hb1
  | true =>
    have HO := Lib.hid h1
    have HF : Hid (Nm.residR s l = some (Nm.rnorm (Nm.wl s l))) := residR_yes ⟨h1, hs⟩
    have hn24 : n ≤ 24 := by rw [← hl.1]; exact (ok_lenO h1).2
    have hn1 : 1 ≤ n := by rw [← hl.1]; exact (ok_lenO h1).1
    clear h1
    go_enter Tryz.func101, Tryz.ntmps101
    go_wp2_with fail
    refine (specOk_any w B A n c l hB hl hn).mono ?_
    rintro e w1 ⟨rfl, hb1⟩
    rw [HO.out]
    go_wp2_with fail
    refine (l03Sign_any w1 s).mono ?_
    rintro e w' ⟨rfl, rfl⟩
    rw [hs]
    have HP0 : Hid (PileO (w'.alloc (.cells #[] 138)) w.heap.size w'.heap.size 0 0 []) := ⟨rfl, [], World.ownsRow_made w' #[] 0 hb1.size (by simp [maxLen]) (by simp), fun i a ha => by simp at ha⟩
    have HB1 := Lib.hid (hb1.alloc hb1.size (.cells #[] 138))
    clear hb1 hs
    go_wp2
    go_loopw [6, 7] (fun v i wr => ∃ (k : Nat) (st : List (List (Int × Int))) (g D c4 : Nat), k ≤ n ∧ i = .int .i64 k ∧ Hid (Nm.wrun s (l.take k) [] = some st) ∧ v = .slice (some ⟨g, 0, none⟩) D c4 ∧ Hid (PileO wr w.heap.size g D c4 (st.map Nm.rnorm)) ∧ Below w.heap.size w wr) (fun _ i _ => n - (intOf i).toNat)
    case atStart => exact ⟨0, [], w'.heap.size, 0, 0, Nat.zero_le _, rfl, Lib.hid rfl, rfl, HP0, HB1.out⟩
    case round =>
      obtain ⟨k, st, g, D, c4, hk, rfl, HR, rfl, HP, hbel⟩ := hrel
      have hszr := hbel.size
      have hDl : st.length = D := by have := HP.out.1; rw [List.length_map] at this; exact this
      have hdl := wlen_run HR.out
      rw [List.length_take] at hdl
      have hD24 : D ≤ 24 := by omega
      have hfine := Nm.wfine_take HR.out (by omega)
      by_cases hlt : k < n
      · obtain ⟨b, off, rfl, hb, hc⟩ := hl.2 (by omega)
        obtain ⟨x1, x2⟩ := hc k hlt
        have hkl : k < l.length := by rw [hl.1]; exact hlt
        obtain ⟨t, ht⟩ : ∃ t, l.getD k (0, 0) = t := ⟨_, rfl⟩
        have k1 := (hbel.cell (p := ⟨b, off + k * 2, none⟩) (by show b < _; omega)).trans x1
        have k2 := (hbel.cell (p := ⟨b, off + k * 2 + 1, none⟩) (by show b < _; omega)).trans x2
        rw [ht] at k1 k2
        have hki : (k : Int) < (n : Int) := by omega
        obtain ⟨st', hst'⟩ := Nm.wrun_some (s := s) HO.out (k + 1)
        have HR' := Lib.hid hst'
        have hps : Nm.wstep s (l.getD k (0, 0)) st = some st' := by
          have h := Nm.wrun_take_succ s l k hkl []
          rw [hst', HR.out] at h
          exact h.symm
        rw [ht] at hps
        have htk := Nm.wstep_ok hps
        obtain ⟨op, y⟩ := t
        have HL := Lib.hid hl
        have HBL := Lib.hid hbel
        clear x1 x2 hc ht hst' hl hdl hkl hbel
        rcases Lv.tk_cases htk with e | e | e | e | e
        · obtain rfl : op = 0 := e
          obtain rfl := Nm.wstep_zero hps
          obtain ⟨hD, vals, h2, h3⟩ := (HP.out.alloc (.cells #[.int .i64 (-1), .int .i64 0] 92)).alloc (.cells #[.slice (some ⟨wr.heap.size, 0, none⟩) 1 1] 138)
          have hel : OwnA ((wr.alloc (.cells #[.int .i64 (-1), .int .i64 0] 92)).alloc (.cells #[.slice (some ⟨wr.heap.size, 0, none⟩) 1 1] 138)) w.heap.size (some ⟨wr.heap.size, 0, none⟩) 1 1 [(-1, 0)] := own_litO ((Blk.made wr _ _).alloc _) hszr
          have hba := (HBL.out.alloc hszr (.cells #[.int .i64 (-1), .int .i64 0] 92)).alloc (by simp; omega) (.cells #[.slice (some ⟨wr.heap.size, 0, none⟩) 1 1] 138)
          have HN1 := Lib.hid (rnorm_one (p := -1) (by omega) (by omega))
          clear hps htk hfine
          go_wp2_with (at_builtin; refine wpList_append_own _ rfl (.tmp 82) (.tmp 85) 183 rfl w.heap.size 138 j0 (.slice none 0 0) 1 24 Tryz.underlying183 ji jz0 jz1 jz2 rfl (by decide) (.slice (some ⟨g, 0, none⟩) D c4) D vals rfl h2 ⟨wr.heap.size + 1, 0, none⟩ 1 1 [.slice (some ⟨wr.heap.size, 0, none⟩) 1 1] rfl rfl (news_one _ _ _ _) (fun u hu => by simp at hu; subst hu; rfl) (by unfold maxLen; omega) (by omega) (by simp; omega) ?_
                       intro v' w3 hown' hgrow hnil
                       obtain ⟨g', c', rfl, hp3⟩ := PileO.push (a := [(-1, 0)]) hD h2 h3 (OwnO.of hel) hgrow hown'
                       have HP3 := Lib.hid hp3
                       have HB3 : Hid (Below w.heap.size w w3) := hba.grown hgrow (by simp; omega) (fun k h => (h2.lt k h).1)
                       clear hown' hgrow hnil hp3 h2 h3 hel hba)
          go_wp2
          go_roundw
          case rel => exact ⟨k + 1, [(-1, 0)] :: st, g', D + 1, c', by omega, by go_num, HR', rfl, Lib.hid (by rw [List.map_cons, HN1.out]; exact HP3.out), HB3.out⟩
          case measure => simp [intOf]; omega
        · obtain rfl : op = 1 := e
          obtain ⟨a, r, rfl, rfl⟩ := Nm.wstep_succ hps
          obtain ⟨d, rfl⟩ : ∃ d, D = d + 1 := ⟨r.length, by rw [← hDl]; rfl⟩
          have hsd : r.length = d := by simpa using hDl
          have hfa := hfine a (by simp)
          have hoka := hfine.allOk (by omega) (a := a) (by simp)
          have hokr := Nm.rnorm_allOk hoka
          have hoku : Nm.AllOk (Nm.up 1 (Nm.rnorm a)) := hokr.up (fun x hx => by have := hfa.2.2 x (Nm.rnorm_sub hx); omega)
          have HRU : Hid (Nm.resid s (Nm.up 1 (Nm.rnorm a)) = Nm.rnorm (Nm.up 1 a)) := by
            unfold Hid Nm.resid
            rw [Nm.pl_self ((hfa.2.1.rnorm).up 1), Nm.rnorm_up hoka hokr]
          have HSM := Lib.hid (small_of hokr)
          have HOKU := Lib.hid hoku
          have hl6 := Nm.rnorm_len a
          have hl1 : 1 ≤ (Nm.rnorm a).length := List.length_pos_iff.2 (Nm.rnorm_ne hfa.1 hoka)
          obtain ⟨Aa, ca, q1, q2⟩ := HP.out.at (i := d) (a := Nm.rnorm a) (by rw [List.map_cons, List.reverse_cons, List.getElem?_append_right (by simp [hsd]), List.length_reverse, List.length_map, hsd, Nat.sub_self]; rfl)
          obtain ⟨La, hLa⟩ : ∃ La, (Nm.rnorm a).length = La := ⟨_, rfl⟩
          rw [hLa] at q1 q2 hl6 hl1
          have hlu6 := Nm.rnorm_len (Nm.up 1 a)
          obtain ⟨Lu, hLu⟩ : ∃ Lu, (Nm.rnorm (Nm.up 1 a)).length = Lu := ⟨_, rfl⟩
          have HLU := Lib.hid hLu
          have HQ2 := Lib.hid q2
          clear hps htk hfine hfa hoka q2 hLa hokr hoku hLu
          go_wp2_with fail
          refine (specUp_any wr wr.heap.size _ La ca (Nm.rnorm a) 1 (Nat.le_refl _) (at_reads HQ2.out) (by omega) HSM.out (by omega) (by omega)).mono ?_
          rintro e w2 ⟨gu, cu, rfl, hou, hb2⟩
          have hs2 := hb2.size
          have HLUP := Lib.hid (l03Resid_any w2 w2.heap.size (some ⟨gu, 0, none⟩) La cu (Nm.up 1 (Nm.rnorm a)) s (Nat.le_refl _) (OwnA.reads hou) (by omega) (by omega) HOKU.out)
          have HB2 := Lib.hid hb2
          clear hou hb2
          go_wp2_with fail
          refine HLUP.out.mono ?_
          rintro e w3 ⟨Au, cv, rfl, hov, hb3⟩
          rw [HRU.out, HLU.out] at hov
          rw [HRU.out, HLU.out]
          have hb23 := HB2.out.trans (hb3.mono hs2)
          have hp3 := HP.out.below hb23
          have hgd := (hp3.2).elim (fun vals h => (h.1.lt g rfl))
          have HPT := Lib.hid (PileO.top hp3 (a' := Nm.rnorm (Nm.up 1 a)) (A := Au) (ca := cv) (by rw [HLU.out]; exact at_base hov (Nat.le_trans hszr hs2)))
          have hb03 := HBL.out.trans (hb23.mono hszr)
          have HB3 := Lib.hid (hb03.setCell (p := ⟨g, d, none⟩) hgd.1 (.slice Au Lu cv))
          have k3 := (hb23.cell (p := ⟨g, d, none⟩) (World.block_lt_of_cell? wr _ q1)).trans q1
          have f3 : w3.frozen? ⟨g, d, none⟩ = false := by
            obtain ⟨_, vals, h, _⟩ := hp3
            obtain ⟨cs, hblk⟩ := own_blk h g rfl
            exact hblk.thawed d
          rw [HLU.out] at HPT
          clear hb3 hov hp3 hgd hb03 q1 HB2 hb23 HLUP
          go_wp2
          go_roundw
          case rel => exact ⟨k + 1, Nm.up 1 a :: r, g, d + 1, c4, by omega, by go_num, HR', rfl, HPT, HB3.out⟩
          case measure => simp [intOf]; omega
        · obtain rfl : op = 2 := e
          obtain ⟨a, b2, r, rfl, rfl⟩ := Nm.wstep_two hps (by omega)
          obtain ⟨d, rfl⟩ : ∃ d, D = d + 2 := ⟨r.length, by rw [← hDl]; rfl⟩
          have hsd : r.length = d := by simpa using hDl
          have hfa := hfine a (by simp)
          have hfb := hfine b2 (by simp)
          have hoka := hfine.allOk (by omega) (a := a) (by simp)
          have hokb := hfine.allOk (by omega) (a := b2) (by simp)
          have hokab : Nm.AllOk (Nm.rnorm a ++ Nm.rnorm b2) := (Nm.rnorm_allOk hoka).append (Nm.rnorm_allOk hokb)
          have HJ : Hid (Nm.resid s (Nm.rnorm a ++ Nm.rnorm b2) = Nm.rnorm (a ++ b2)) := by
            unfold Hid Nm.resid
            rw [Nm.pl_self ((hfa.2.1.rnorm).append (hfb.2.1.rnorm)), Nm.rnorm_join hoka hokb]
          have HOKAB := Lib.hid hokab
          have HZ := Lib.hid (Nm.rnorm_zero hfb.1 hokb)
          have ha1 : 1 ≤ (Nm.rnorm a).length := List.length_pos_iff.2 (Nm.rnorm_ne hfa.1 hoka)
          have hb1' : 1 ≤ (Nm.rnorm b2).length := List.length_pos_iff.2 (Nm.rnorm_ne hfb.1 hokb)
          have ha6 := Nm.rnorm_len a
          have hb6 := Nm.rnorm_len b2
          have hm6 := Nm.rnorm_len (a ++ b2)
          obtain ⟨Aa, ca, qa1, qa2⟩ := HP.out.at (i := d) (a := Nm.rnorm a) (by rw [List.map_cons, List.map_cons, List.reverse_cons, List.reverse_cons, List.append_assoc, List.getElem?_append_right (by simp [hsd]), List.length_reverse, List.length_map, hsd, Nat.sub_self]; rfl)
          obtain ⟨Ab, cb, qb1, qb2⟩ := HP.out.at (i := d + 1) (a := Nm.rnorm b2) (by rw [List.map_cons, List.map_cons, List.reverse_cons, List.getElem?_append_right (by simp [hsd]), List.length_reverse, List.length_cons, List.length_map, hsd, Nat.sub_self]; rfl)
          obtain ⟨La, hLa⟩ : ∃ La, (Nm.rnorm a).length = La := ⟨_, rfl⟩
          obtain ⟨Lb, hLb⟩ : ∃ Lb, (Nm.rnorm b2).length = Lb := ⟨_, rfl⟩
          obtain ⟨Lm, hLm⟩ : ∃ Lm, (Nm.rnorm (a ++ b2)).length = Lm := ⟨_, rfl⟩
          rw [hLa] at qa1 qa2 ha6 ha1
          rw [hLb] at qb1 qb2 hb6 hb1'
          rw [hLm] at hm6
          have HLM := Lib.hid hLm
          have HLB := Lib.hid hLb
          have HOA := Lib.hid qa2
          have HOB := Lib.hid qb2
          obtain ⟨gb, ob, eb, hbb, hcb⟩ := (at_reads qb2).2 (by omega)
          subst eb
          obtain ⟨z1, z2⟩ := hcb 0 (by omega)
          rw [Nat.zero_mul, Nat.add_zero] at z1 z2
          obtain ⟨u, hu⟩ : ∃ u, (Nm.rnorm b2).getD 0 (0, 0) = u := ⟨_, rfl⟩
          rw [hu] at z1 z2
          obtain ⟨zp, zx⟩ := u
          simp only at z1 z2
          have HUU := Lib.hid hu
          have hcap := HP.out.cap
          have hw2 : IntKind.i64.wrap ((d : Int) + 2 - 2) = (d : Int) := by rw [IntKind.wrap_i64]; omega
          have hw1 : IntKind.i64.wrap ((d : Int) + 2 - 1) = (d : Int) + 1 := by rw [IntKind.wrap_i64]; omega
          have n1 : (0 : Int) ≤ (d : Int) := by omega
          have n3 : (0 : Int) ≤ (d : Int) + 1 := by omega
          have n4 : (d : Int) < (d : Int) + 2 := by omega
          have n5 : (d : Int) + 1 < (d : Int) + 2 := by omega
          have n6 : ((d : Int) + 1).toNat = d + 1 := by omega
          clear hps htk hfine hfa hfb hoka hokb qa2 qb2 hLa hLb hLm hDl hokab hcb hu
          have hne3 : ¬ ((2 : Int) = 3 ∧ Nm.zeroL b2 = true) := fun h => by omega
          have HNE := Lib.hid hne3
          clear hne3
          by_cases hL1 : Lb = 1
          · subst hL1
            by_cases hq1 : zp = -1
            · subst hq1
              by_cases hq2 : zx = 0
              · subst hq2
                obtain ⟨qa, rfl, hqa⟩ := (at_reads HOA.out).tokA (by omega)
                have hcla : (tokCells (Nm.rnorm a)).length = La * 2 := HOA.out.1
                have hclb : (tokCells (Nm.rnorm b2)).length = 1 * 2 := HOB.out.1
                have ho0 : OwnA (wr.alloc (.cells #[] 92)) wr.heap.size (some ⟨wr.heap.size, 0, none⟩) 0 0 [] := World.ownsRow_made wr #[] 0 (Nat.le_refl _) (by simp [maxLen]) (by simp)
                have hb0 : Below wr.heap.size wr (wr.alloc (.cells #[] 92)).drew := ((Below.refl _ _).alloc (Nat.le_refl _) _).drew
                go_wp2_with fail
                go_region
                go_wp2_with (at_builtin; first
                  | (refine wpList_append_own _ rfl (.tmp 66) (.tmp 67) 138 rfl wr.heap.size 92 i0 (.agg #[.int .i64 0, .int .i64 0]) 2 16 Tryz.underlying138 hi hz0 hz1 hz2 rfl (by decide) (.slice (some ⟨wr.heap.size, 0, none⟩) 0 0) 0 (tokCells []) rfl ho0 qa La ca (tokCells (Nm.rnorm a)) rfl hcla (fun j u hu => ((at_reads (at_below' HOA.out hb0)).tokA (by omega)).elim fun q h => by obtain ⟨e, h⟩ := h; injection e with e; subst e; exact h.2 j u hu) (tokCells_one _) (by unfold maxLen; omega) (by omega) (by simp) ?_
                     intro v1 w1' hown1 hgrow1 hnil1
                     rw [tokCells_nil, List.nil_append, Nat.zero_add] at hown1
                     obtain ⟨g1, d1, rfl⟩ := own_form hown1 (by omega)
                     have hB1 : Below wr.heap.size wr w1' := hb0.grown hgrow1 (by simp) (fun k h => by have h' : wr.heap.size = k := (by simpa [Value.ownBlock] using h); omega)
                     have hsz1 := hB1.size)
                  | (refine wpList_append_own _ rfl (.tmp 68) (.tmp 69) 138 rfl wr.heap.size 92 i0 (.agg #[.int .i64 0, .int .i64 0]) 2 16 Tryz.underlying138 hi hz0 hz1 hz2 rfl (by decide) (.slice (some ⟨g1, 0, none⟩) La d1) La (tokCells (Nm.rnorm a)) rfl hown1 ⟨gb, ob, none⟩ 1 cb (tokCells (Nm.rnorm b2)) rfl hclb (fun j u hu => ((at_reads (at_below' HOB.out hB1)).tokA (by omega)).elim fun q h => by obtain ⟨e, h⟩ := h; injection e with e; subst e; exact h.2 j u hu) (tokCells_one _) (by unfold maxLen; omega) (by omega) (by omega) ?_
                     intro v2 w2' hown2 hgrow2 hnil2
                     obtain ⟨g2, d2, rfl⟩ := own_form hown2 (by omega)
                     have hB2 : Below wr.heap.size wr w2' := hB1.grown hgrow2 hsz1 (fun k h => (hown1.lt k h).1)
                     have ho2 : OwnA w2' wr.heap.size (some ⟨g2, 0, none⟩) (La + 1) d2 (Nm.rnorm a ++ Nm.rnorm b2) := by
                       unfold OwnA
                       rw [tokCells_append]
                       exact hown2
                     have hsz2 := hB2.size
                     have HLR := Lib.hid (l03Resid_any w2' w2'.heap.size (some ⟨g2, 0, none⟩) (La + 1) d2 (Nm.rnorm a ++ Nm.rnorm b2) s (Nat.le_refl _) (OwnA.reads ho2) (by omega) (by omega) HOKAB.out)
                     have HB2 := Lib.hid hB2
                     clear hown1 hgrow1 hnil1 hB1 hown2 hgrow2 hnil2 hB2 ho2 ho0 hb0))
                refine HLR.out.mono ?_
                rintro e wq ⟨Am, cm, rfl, hom, hbq⟩
                rw [HJ.out, HLM.out] at hom
                rw [HJ.out, HLM.out]
                have HBQ := Lib.hid (HB2.out.trans (hbq.mono hsz2))
                have hsq : wr.heap.size ≤ wq.heap.size := HBQ.out.size
                have HOM := Lib.hid (at_base hom (Nat.le_trans hszr hsz2))
                clear hom hbq HLR HB2
                have hpd := ((HP.out.below HBQ.out).alloc (.cells #[.slice Am Lm cm] 138)).drop 2 (by omega)
                obtain ⟨hD4, vals4, h24, h34⟩ := hpd
                have hba := (HBL.out.trans (HBQ.out.mono hszr)).alloc (Nat.le_trans hszr hsq) (.cells #[.slice Am Lm cm] 138)
                simp only [Nat.add_sub_cancel] at h24 hD4 h34
                clear HBQ
                go_wp2_with (at_builtin; refine wpList_append_own _ rfl (.tmp 76) (.tmp 78) 183 rfl w.heap.size 138 j0 (.slice none 0 0) 1 24 Tryz.underlying183 ji jz0 jz1 jz2 rfl (by decide) (.slice (some ⟨g, 0, none⟩) d c4) d vals4 rfl h24 ⟨wq.heap.size, 0, none⟩ 1 1 [.slice Am Lm cm] rfl rfl (cell_one_new _ _ _) (fun u hu => by simp at hu; subst hu; rfl) (by unfold maxLen; omega) (by omega) (by simp; omega) ?_
                             intro v' w3 hown' hgrow hnil
                             obtain ⟨g', c', rfl, hp3⟩ := PileO.push (a := Nm.rnorm (a ++ b2)) (A := Am) (ca := cm) hD4 h24 h34 (by rw [HLM.out]; exact at_below' HOM.out ((Below.refl _ _).alloc (Nat.le_refl _) _)) hgrow (by rw [HLM.out]; exact hown')
                             have HP3 := Lib.hid hp3
                             have HB3 : Hid (Below w.heap.size w w3) := hba.grown hgrow (by simp; omega) (fun k h => (h24.lt k h).1)
                             clear hown' hgrow hnil hp3 h24 h34 hba)
                go_wp2
                go_roundw
                case rel => exact ⟨k + 1, _, g', d + 1, c', by omega, by go_num, HR', rfl, Lib.hid (by rw [List.map_cons, if_neg HNE.out]; simpa using HP3.out), HB3.out⟩
                case measure => simp [intOf]; omega
              · have dz : (zx == 0) = false := by simpa using hq2
                obtain ⟨qa, rfl, hqa⟩ := (at_reads HOA.out).tokA (by omega)
                have hcla : (tokCells (Nm.rnorm a)).length = La * 2 := HOA.out.1
                have hclb : (tokCells (Nm.rnorm b2)).length = 1 * 2 := HOB.out.1
                have ho0 : OwnA (wr.alloc (.cells #[] 92)) wr.heap.size (some ⟨wr.heap.size, 0, none⟩) 0 0 [] := World.ownsRow_made wr #[] 0 (Nat.le_refl _) (by simp [maxLen]) (by simp)
                have hb0 : Below wr.heap.size wr (wr.alloc (.cells #[] 92)).drew := ((Below.refl _ _).alloc (Nat.le_refl _) _).drew
                go_wp2_with fail
                go_region
                go_wp2_with (at_builtin; first
                  | (refine wpList_append_own _ rfl (.tmp 66) (.tmp 67) 138 rfl wr.heap.size 92 i0 (.agg #[.int .i64 0, .int .i64 0]) 2 16 Tryz.underlying138 hi hz0 hz1 hz2 rfl (by decide) (.slice (some ⟨wr.heap.size, 0, none⟩) 0 0) 0 (tokCells []) rfl ho0 qa La ca (tokCells (Nm.rnorm a)) rfl hcla (fun j u hu => ((at_reads (at_below' HOA.out hb0)).tokA (by omega)).elim fun q h => by obtain ⟨e, h⟩ := h; injection e with e; subst e; exact h.2 j u hu) (tokCells_one _) (by unfold maxLen; omega) (by omega) (by simp) ?_
                     intro v1 w1' hown1 hgrow1 hnil1
                     rw [tokCells_nil, List.nil_append, Nat.zero_add] at hown1
                     obtain ⟨g1, d1, rfl⟩ := own_form hown1 (by omega)
                     have hB1 : Below wr.heap.size wr w1' := hb0.grown hgrow1 (by simp) (fun k h => by have h' : wr.heap.size = k := (by simpa [Value.ownBlock] using h); omega)
                     have hsz1 := hB1.size)
                  | (refine wpList_append_own _ rfl (.tmp 68) (.tmp 69) 138 rfl wr.heap.size 92 i0 (.agg #[.int .i64 0, .int .i64 0]) 2 16 Tryz.underlying138 hi hz0 hz1 hz2 rfl (by decide) (.slice (some ⟨g1, 0, none⟩) La d1) La (tokCells (Nm.rnorm a)) rfl hown1 ⟨gb, ob, none⟩ 1 cb (tokCells (Nm.rnorm b2)) rfl hclb (fun j u hu => ((at_reads (at_below' HOB.out hB1)).tokA (by omega)).elim fun q h => by obtain ⟨e, h⟩ := h; injection e with e; subst e; exact h.2 j u hu) (tokCells_one _) (by unfold maxLen; omega) (by omega) (by omega) ?_
                     intro v2 w2' hown2 hgrow2 hnil2
                     obtain ⟨g2, d2, rfl⟩ := own_form hown2 (by omega)
                     have hB2 : Below wr.heap.size wr w2' := hB1.grown hgrow2 hsz1 (fun k h => (hown1.lt k h).1)
                     have ho2 : OwnA w2' wr.heap.size (some ⟨g2, 0, none⟩) (La + 1) d2 (Nm.rnorm a ++ Nm.rnorm b2) := by
                       unfold OwnA
                       rw [tokCells_append]
                       exact hown2
                     have hsz2 := hB2.size
                     have HLR := Lib.hid (l03Resid_any w2' w2'.heap.size (some ⟨g2, 0, none⟩) (La + 1) d2 (Nm.rnorm a ++ Nm.rnorm b2) s (Nat.le_refl _) (OwnA.reads ho2) (by omega) (by omega) HOKAB.out)
                     have HB2 := Lib.hid hB2
                     clear hown1 hgrow1 hnil1 hB1 hown2 hgrow2 hnil2 hB2 ho2 ho0 hb0))
                refine HLR.out.mono ?_
                rintro e wq ⟨Am, cm, rfl, hom, hbq⟩
                rw [HJ.out, HLM.out] at hom
                rw [HJ.out, HLM.out]
                have HBQ := Lib.hid (HB2.out.trans (hbq.mono hsz2))
                have hsq : wr.heap.size ≤ wq.heap.size := HBQ.out.size
                have HOM := Lib.hid (at_base hom (Nat.le_trans hszr hsz2))
                clear hom hbq HLR HB2
                have hpd := ((HP.out.below HBQ.out).alloc (.cells #[.slice Am Lm cm] 138)).drop 2 (by omega)
                obtain ⟨hD4, vals4, h24, h34⟩ := hpd
                have hba := (HBL.out.trans (HBQ.out.mono hszr)).alloc (Nat.le_trans hszr hsq) (.cells #[.slice Am Lm cm] 138)
                simp only [Nat.add_sub_cancel] at h24 hD4 h34
                clear HBQ
                go_wp2_with (at_builtin; refine wpList_append_own _ rfl (.tmp 76) (.tmp 78) 183 rfl w.heap.size 138 j0 (.slice none 0 0) 1 24 Tryz.underlying183 ji jz0 jz1 jz2 rfl (by decide) (.slice (some ⟨g, 0, none⟩) d c4) d vals4 rfl h24 ⟨wq.heap.size, 0, none⟩ 1 1 [.slice Am Lm cm] rfl rfl (cell_one_new _ _ _) (fun u hu => by simp at hu; subst hu; rfl) (by unfold maxLen; omega) (by omega) (by simp; omega) ?_
                             intro v' w3 hown' hgrow hnil
                             obtain ⟨g', c', rfl, hp3⟩ := PileO.push (a := Nm.rnorm (a ++ b2)) (A := Am) (ca := cm) hD4 h24 h34 (by rw [HLM.out]; exact at_below' HOM.out ((Below.refl _ _).alloc (Nat.le_refl _) _)) hgrow (by rw [HLM.out]; exact hown')
                             have HP3 := Lib.hid hp3
                             have HB3 : Hid (Below w.heap.size w w3) := hba.grown hgrow (by simp; omega) (fun k h => (h24.lt k h).1)
                             clear hown' hgrow hnil hp3 h24 h34 hba)
                go_wp2
                go_roundw
                case rel => exact ⟨k + 1, _, g', d + 1, c', by omega, by go_num, HR', rfl, Lib.hid (by rw [List.map_cons, if_neg HNE.out]; simpa using HP3.out), HB3.out⟩
                case measure => simp [intOf]; omega
            · have dz : (zp == -1) = false := by simpa using hq1
              obtain ⟨qa, rfl, hqa⟩ := (at_reads HOA.out).tokA (by omega)
              have hcla : (tokCells (Nm.rnorm a)).length = La * 2 := HOA.out.1
              have hclb : (tokCells (Nm.rnorm b2)).length = 1 * 2 := HOB.out.1
              have ho0 : OwnA (wr.alloc (.cells #[] 92)) wr.heap.size (some ⟨wr.heap.size, 0, none⟩) 0 0 [] := World.ownsRow_made wr #[] 0 (Nat.le_refl _) (by simp [maxLen]) (by simp)
              have hb0 : Below wr.heap.size wr (wr.alloc (.cells #[] 92)).drew := ((Below.refl _ _).alloc (Nat.le_refl _) _).drew
              go_wp2_with fail
              go_region
              go_wp2_with (at_builtin; first
                | (refine wpList_append_own _ rfl (.tmp 66) (.tmp 67) 138 rfl wr.heap.size 92 i0 (.agg #[.int .i64 0, .int .i64 0]) 2 16 Tryz.underlying138 hi hz0 hz1 hz2 rfl (by decide) (.slice (some ⟨wr.heap.size, 0, none⟩) 0 0) 0 (tokCells []) rfl ho0 qa La ca (tokCells (Nm.rnorm a)) rfl hcla (fun j u hu => ((at_reads (at_below' HOA.out hb0)).tokA (by omega)).elim fun q h => by obtain ⟨e, h⟩ := h; injection e with e; subst e; exact h.2 j u hu) (tokCells_one _) (by unfold maxLen; omega) (by omega) (by simp) ?_
                   intro v1 w1' hown1 hgrow1 hnil1
                   rw [tokCells_nil, List.nil_append, Nat.zero_add] at hown1
                   obtain ⟨g1, d1, rfl⟩ := own_form hown1 (by omega)
                   have hB1 : Below wr.heap.size wr w1' := hb0.grown hgrow1 (by simp) (fun k h => by have h' : wr.heap.size = k := (by simpa [Value.ownBlock] using h); omega)
                   have hsz1 := hB1.size)
                | (refine wpList_append_own _ rfl (.tmp 68) (.tmp 69) 138 rfl wr.heap.size 92 i0 (.agg #[.int .i64 0, .int .i64 0]) 2 16 Tryz.underlying138 hi hz0 hz1 hz2 rfl (by decide) (.slice (some ⟨g1, 0, none⟩) La d1) La (tokCells (Nm.rnorm a)) rfl hown1 ⟨gb, ob, none⟩ 1 cb (tokCells (Nm.rnorm b2)) rfl hclb (fun j u hu => ((at_reads (at_below' HOB.out hB1)).tokA (by omega)).elim fun q h => by obtain ⟨e, h⟩ := h; injection e with e; subst e; exact h.2 j u hu) (tokCells_one _) (by unfold maxLen; omega) (by omega) (by omega) ?_
                   intro v2 w2' hown2 hgrow2 hnil2
                   obtain ⟨g2, d2, rfl⟩ := own_form hown2 (by omega)
                   have hB2 : Below wr.heap.size wr w2' := hB1.grown hgrow2 hsz1 (fun k h => (hown1.lt k h).1)
                   have ho2 : OwnA w2' wr.heap.size (some ⟨g2, 0, none⟩) (La + 1) d2 (Nm.rnorm a ++ Nm.rnorm b2) := by
                     unfold OwnA
                     rw [tokCells_append]
                     exact hown2
                   have hsz2 := hB2.size
                   have HLR := Lib.hid (l03Resid_any w2' w2'.heap.size (some ⟨g2, 0, none⟩) (La + 1) d2 (Nm.rnorm a ++ Nm.rnorm b2) s (Nat.le_refl _) (OwnA.reads ho2) (by omega) (by omega) HOKAB.out)
                   have HB2 := Lib.hid hB2
                   clear hown1 hgrow1 hnil1 hB1 hown2 hgrow2 hnil2 hB2 ho2 ho0 hb0))
              refine HLR.out.mono ?_
              rintro e wq ⟨Am, cm, rfl, hom, hbq⟩
              rw [HJ.out, HLM.out] at hom
              rw [HJ.out, HLM.out]
              have HBQ := Lib.hid (HB2.out.trans (hbq.mono hsz2))
              have hsq : wr.heap.size ≤ wq.heap.size := HBQ.out.size
              have HOM := Lib.hid (at_base hom (Nat.le_trans hszr hsz2))
              clear hom hbq HLR HB2
              have hpd := ((HP.out.below HBQ.out).alloc (.cells #[.slice Am Lm cm] 138)).drop 2 (by omega)
              obtain ⟨hD4, vals4, h24, h34⟩ := hpd
              have hba := (HBL.out.trans (HBQ.out.mono hszr)).alloc (Nat.le_trans hszr hsq) (.cells #[.slice Am Lm cm] 138)
              simp only [Nat.add_sub_cancel] at h24 hD4 h34
              clear HBQ
              go_wp2_with (at_builtin; refine wpList_append_own _ rfl (.tmp 76) (.tmp 78) 183 rfl w.heap.size 138 j0 (.slice none 0 0) 1 24 Tryz.underlying183 ji jz0 jz1 jz2 rfl (by decide) (.slice (some ⟨g, 0, none⟩) d c4) d vals4 rfl h24 ⟨wq.heap.size, 0, none⟩ 1 1 [.slice Am Lm cm] rfl rfl (cell_one_new _ _ _) (fun u hu => by simp at hu; subst hu; rfl) (by unfold maxLen; omega) (by omega) (by simp; omega) ?_
                           intro v' w3 hown' hgrow hnil
                           obtain ⟨g', c', rfl, hp3⟩ := PileO.push (a := Nm.rnorm (a ++ b2)) (A := Am) (ca := cm) hD4 h24 h34 (by rw [HLM.out]; exact at_below' HOM.out ((Below.refl _ _).alloc (Nat.le_refl _) _)) hgrow (by rw [HLM.out]; exact hown')
                           have HP3 := Lib.hid hp3
                           have HB3 : Hid (Below w.heap.size w w3) := hba.grown hgrow (by simp; omega) (fun k h => (h24.lt k h).1)
                           clear hown' hgrow hnil hp3 h24 h34 hba)
              go_wp2
              go_roundw
              case rel => exact ⟨k + 1, _, g', d + 1, c', by omega, by go_num, HR', rfl, Lib.hid (by rw [List.map_cons, if_neg HNE.out]; simpa using HP3.out), HB3.out⟩
              case measure => simp [intOf]; omega
          · have dL : ((Lb : Int) == 1) = false := by simp; omega
            obtain ⟨qa, rfl, hqa⟩ := (at_reads HOA.out).tokA (by omega)
            have hcla : (tokCells (Nm.rnorm a)).length = La * 2 := HOA.out.1
            have hclb : (tokCells (Nm.rnorm b2)).length = Lb * 2 := HOB.out.1
            have ho0 : OwnA (wr.alloc (.cells #[] 92)) wr.heap.size (some ⟨wr.heap.size, 0, none⟩) 0 0 [] := World.ownsRow_made wr #[] 0 (Nat.le_refl _) (by simp [maxLen]) (by simp)
            have hb0 : Below wr.heap.size wr (wr.alloc (.cells #[] 92)).drew := ((Below.refl _ _).alloc (Nat.le_refl _) _).drew
            go_wp2_with fail
            go_region
            go_wp2_with (at_builtin; first
              | (refine wpList_append_own _ rfl (.tmp 66) (.tmp 67) 138 rfl wr.heap.size 92 i0 (.agg #[.int .i64 0, .int .i64 0]) 2 16 Tryz.underlying138 hi hz0 hz1 hz2 rfl (by decide) (.slice (some ⟨wr.heap.size, 0, none⟩) 0 0) 0 (tokCells []) rfl ho0 qa La ca (tokCells (Nm.rnorm a)) rfl hcla (fun j u hu => ((at_reads (at_below' HOA.out hb0)).tokA (by omega)).elim fun q h => by obtain ⟨e, h⟩ := h; injection e with e; subst e; exact h.2 j u hu) (tokCells_one _) (by unfold maxLen; omega) (by omega) (by simp) ?_
                 intro v1 w1' hown1 hgrow1 hnil1
                 rw [tokCells_nil, List.nil_append, Nat.zero_add] at hown1
                 obtain ⟨g1, d1, rfl⟩ := own_form hown1 (by omega)
                 have hB1 : Below wr.heap.size wr w1' := hb0.grown hgrow1 (by simp) (fun k h => by have h' : wr.heap.size = k := (by simpa [Value.ownBlock] using h); omega)
                 have hsz1 := hB1.size)
              | (refine wpList_append_own _ rfl (.tmp 68) (.tmp 69) 138 rfl wr.heap.size 92 i0 (.agg #[.int .i64 0, .int .i64 0]) 2 16 Tryz.underlying138 hi hz0 hz1 hz2 rfl (by decide) (.slice (some ⟨g1, 0, none⟩) La d1) La (tokCells (Nm.rnorm a)) rfl hown1 ⟨gb, ob, none⟩ Lb cb (tokCells (Nm.rnorm b2)) rfl hclb (fun j u hu => ((at_reads (at_below' HOB.out hB1)).tokA (by omega)).elim fun q h => by obtain ⟨e, h⟩ := h; injection e with e; subst e; exact h.2 j u hu) (tokCells_one _) (by unfold maxLen; omega) (by omega) (by omega) ?_
                 intro v2 w2' hown2 hgrow2 hnil2
                 obtain ⟨g2, d2, rfl⟩ := own_form hown2 (by omega)
                 have hB2 : Below wr.heap.size wr w2' := hB1.grown hgrow2 hsz1 (fun k h => (hown1.lt k h).1)
                 have ho2 : OwnA w2' wr.heap.size (some ⟨g2, 0, none⟩) (La + Lb) d2 (Nm.rnorm a ++ Nm.rnorm b2) := by
                   unfold OwnA
                   rw [tokCells_append]
                   exact hown2
                 have hsz2 := hB2.size
                 have HLR := Lib.hid (l03Resid_any w2' w2'.heap.size (some ⟨g2, 0, none⟩) (La + Lb) d2 (Nm.rnorm a ++ Nm.rnorm b2) s (Nat.le_refl _) (OwnA.reads ho2) (by omega) (by omega) HOKAB.out)
                 have HB2 := Lib.hid hB2
                 clear hown1 hgrow1 hnil1 hB1 hown2 hgrow2 hnil2 hB2 ho2 ho0 hb0))
            refine HLR.out.mono ?_
            rintro e wq ⟨Am, cm, rfl, hom, hbq⟩
            rw [HJ.out, HLM.out] at hom
            rw [HJ.out, HLM.out]
            have HBQ := Lib.hid (HB2.out.trans (hbq.mono hsz2))
            have hsq : wr.heap.size ≤ wq.heap.size := HBQ.out.size
            have HOM := Lib.hid (at_base hom (Nat.le_trans hszr hsz2))
            clear hom hbq HLR HB2
            have hpd := ((HP.out.below HBQ.out).alloc (.cells #[.slice Am Lm cm] 138)).drop 2 (by omega)
            obtain ⟨hD4, vals4, h24, h34⟩ := hpd
            have hba := (HBL.out.trans (HBQ.out.mono hszr)).alloc (Nat.le_trans hszr hsq) (.cells #[.slice Am Lm cm] 138)
            simp only [Nat.add_sub_cancel] at h24 hD4 h34
            clear HBQ
            go_wp2_with (at_builtin; refine wpList_append_own _ rfl (.tmp 76) (.tmp 78) 183 rfl w.heap.size 138 j0 (.slice none 0 0) 1 24 Tryz.underlying183 ji jz0 jz1 jz2 rfl (by decide) (.slice (some ⟨g, 0, none⟩) d c4) d vals4 rfl h24 ⟨wq.heap.size, 0, none⟩ 1 1 [.slice Am Lm cm] rfl rfl (cell_one_new _ _ _) (fun u hu => by simp at hu; subst hu; rfl) (by unfold maxLen; omega) (by omega) (by simp; omega) ?_
                         intro v' w3 hown' hgrow hnil
                         obtain ⟨g', c', rfl, hp3⟩ := PileO.push (a := Nm.rnorm (a ++ b2)) (A := Am) (ca := cm) hD4 h24 h34 (by rw [HLM.out]; exact at_below' HOM.out ((Below.refl _ _).alloc (Nat.le_refl _) _)) hgrow (by rw [HLM.out]; exact hown')
                         have HP3 := Lib.hid hp3
                         have HB3 : Hid (Below w.heap.size w w3) := hba.grown hgrow (by simp; omega) (fun k h => (h24.lt k h).1)
                         clear hown' hgrow hnil hp3 h24 h34 hba)
            go_wp2
            go_roundw
            case rel => exact ⟨k + 1, _, g', d + 1, c', by omega, by go_num, HR', rfl, Lib.hid (by rw [List.map_cons, if_neg HNE.out]; simpa using HP3.out), HB3.out⟩
            case measure => simp [intOf]; omega
        · obtain rfl : op = 3 := e
          obtain ⟨a, b2, r, rfl, rfl⟩ := Nm.wstep_two hps (by omega)
          obtain ⟨d, rfl⟩ : ∃ d, D = d + 2 := ⟨r.length, by rw [← hDl]; rfl⟩
          have hsd : r.length = d := by simpa using hDl
          have hfa := hfine a (by simp)
          have hfb := hfine b2 (by simp)
          have hoka := hfine.allOk (by omega) (a := a) (by simp)
          have hokb := hfine.allOk (by omega) (a := b2) (by simp)
          have hokab : Nm.AllOk (Nm.rnorm a ++ Nm.rnorm b2) := (Nm.rnorm_allOk hoka).append (Nm.rnorm_allOk hokb)
          have HJ : Hid (Nm.resid s (Nm.rnorm a ++ Nm.rnorm b2) = Nm.rnorm (a ++ b2)) := by
            unfold Hid Nm.resid
            rw [Nm.pl_self ((hfa.2.1.rnorm).append (hfb.2.1.rnorm)), Nm.rnorm_join hoka hokb]
          have HOKAB := Lib.hid hokab
          have HZ := Lib.hid (Nm.rnorm_zero hfb.1 hokb)
          have ha1 : 1 ≤ (Nm.rnorm a).length := List.length_pos_iff.2 (Nm.rnorm_ne hfa.1 hoka)
          have hb1' : 1 ≤ (Nm.rnorm b2).length := List.length_pos_iff.2 (Nm.rnorm_ne hfb.1 hokb)
          have ha6 := Nm.rnorm_len a
          have hb6 := Nm.rnorm_len b2
          have hm6 := Nm.rnorm_len (a ++ b2)
          obtain ⟨Aa, ca, qa1, qa2⟩ := HP.out.at (i := d) (a := Nm.rnorm a) (by rw [List.map_cons, List.map_cons, List.reverse_cons, List.reverse_cons, List.append_assoc, List.getElem?_append_right (by simp [hsd]), List.length_reverse, List.length_map, hsd, Nat.sub_self]; rfl)
          obtain ⟨Ab, cb, qb1, qb2⟩ := HP.out.at (i := d + 1) (a := Nm.rnorm b2) (by rw [List.map_cons, List.map_cons, List.reverse_cons, List.getElem?_append_right (by simp [hsd]), List.length_reverse, List.length_cons, List.length_map, hsd, Nat.sub_self]; rfl)
          obtain ⟨La, hLa⟩ : ∃ La, (Nm.rnorm a).length = La := ⟨_, rfl⟩
          obtain ⟨Lb, hLb⟩ : ∃ Lb, (Nm.rnorm b2).length = Lb := ⟨_, rfl⟩
          obtain ⟨Lm, hLm⟩ : ∃ Lm, (Nm.rnorm (a ++ b2)).length = Lm := ⟨_, rfl⟩
          rw [hLa] at qa1 qa2 ha6 ha1
          rw [hLb] at qb1 qb2 hb6 hb1'
          rw [hLm] at hm6
          have HLM := Lib.hid hLm
          have HLB := Lib.hid hLb
          have HOA := Lib.hid qa2
          have HOB := Lib.hid qb2
          obtain ⟨gb, ob, eb, hbb, hcb⟩ := (at_reads qb2).2 (by omega)
          subst eb
          obtain ⟨z1, z2⟩ := hcb 0 (by omega)
          rw [Nat.zero_mul, Nat.add_zero] at z1 z2
          obtain ⟨u, hu⟩ : ∃ u, (Nm.rnorm b2).getD 0 (0, 0) = u := ⟨_, rfl⟩
          rw [hu] at z1 z2
          obtain ⟨zp, zx⟩ := u
          simp only at z1 z2
          have HUU := Lib.hid hu
          have hcap := HP.out.cap
          have hw2 : IntKind.i64.wrap ((d : Int) + 2 - 2) = (d : Int) := by rw [IntKind.wrap_i64]; omega
          have hw1 : IntKind.i64.wrap ((d : Int) + 2 - 1) = (d : Int) + 1 := by rw [IntKind.wrap_i64]; omega
          have n1 : (0 : Int) ≤ (d : Int) := by omega
          have n3 : (0 : Int) ≤ (d : Int) + 1 := by omega
          have n4 : (d : Int) < (d : Int) + 2 := by omega
          have n5 : (d : Int) + 1 < (d : Int) + 2 := by omega
          have n6 : ((d : Int) + 1).toNat = d + 1 := by omega
          clear hps htk hfine hfa hfb hoka hokb qa2 qb2 hLa hLb hLm hDl hokab hcb hu
          by_cases hL1 : Lb = 1
          · subst hL1
            have hbl : Nm.rnorm b2 = [(zp, zx)] := by
              have h1 := HLB.out
              have h2 := HUU.out
              match hq : Nm.rnorm b2, h1, h2 with
              | [q], _, h2 => rw [show q = (zp, zx) from h2]
            have HBL2 := Lib.hid hbl
            clear hbl
            by_cases hq1 : zp = -1
            · subst hq1
              by_cases hq2 : zx = 0
              · subst hq2
                have HEQ : Hid ((3 : Int) = 3 ∧ Nm.zeroL b2 = true) := ⟨rfl, HZ.out.1 HBL2.out⟩
                have HBQ : Hid (Below wr.heap.size wr wr) := Below.refl _ _
                have hsq : wr.heap.size ≤ wr.heap.size := Nat.le_refl _
                have HR1 := Lib.hid (rnorm_one (p := -1) (by omega) (by omega))
                have HRB : Hid (Nm.rnorm [(-1, 0)] = Nm.rnorm b2) := by unfold Hid; rw [HR1.out, HBL2.out]
                go_wp2_with fail
                go_region
                have hpd := ((HP.out.below HBQ.out).alloc (.cells #[.slice (some ⟨gb, ob, none⟩) 1 cb] 138)).drew.drop 2 (by omega)
                obtain ⟨hD4, vals4, h24, h34⟩ := hpd
                have hba := ((HBL.out.trans (HBQ.out.mono hszr)).alloc (Nat.le_trans hszr hsq) (.cells #[.slice (some ⟨gb, ob, none⟩) 1 cb] 138)).drew
                simp only [Nat.add_sub_cancel] at h24 hD4 h34
                clear HBQ
                go_wp2_with (at_builtin; refine wpList_append_own _ rfl (.tmp 76) (.tmp 78) 183 rfl w.heap.size 138 j0 (.slice none 0 0) 1 24 Tryz.underlying183 ji jz0 jz1 jz2 rfl (by decide) (.slice (some ⟨g, 0, none⟩) d c4) d vals4 rfl h24 ⟨wr.heap.size, 0, none⟩ 1 1 [.slice (some ⟨gb, ob, none⟩) 1 cb] rfl rfl (fun j u hu => cell_one_new wr (.slice (some ⟨gb, ob, none⟩) 1 cb) 138 j u hu) (fun u hu => by simp at hu; subst hu; rfl) (by unfold maxLen; omega) (by omega) (by simp; omega) ?_
                             intro v' w3 hown' hgrow hnil
                             obtain ⟨g', c', rfl, hp3⟩ := PileO.push (a := Nm.rnorm b2) (A := (some ⟨gb, ob, none⟩)) (ca := cb) hD4 h24 h34 (by rw [HLB.out]; exact at_below' HOB.out ((Below.refl _ _).alloc (Nat.le_refl _) _).drew) hgrow (by rw [HLB.out]; exact hown')
                             have HP3 := Lib.hid hp3
                             have HB3 : Hid (Below w.heap.size w w3) := hba.grown hgrow (by simp; omega) (fun k h => (h24.lt k h).1)
                             clear hown' hgrow hnil hp3 h24 h34 hba)
                go_wp2
                go_roundw
                case rel => exact ⟨k + 1, _, g', d + 1, c', by omega, by go_num, HR', rfl, Lib.hid (by rw [List.map_cons, if_pos HEQ.out, HRB.out]; simpa using HP3.out), HB3.out⟩
                case measure => simp [intOf]; omega
              · have dz : (zx == 0) = false := by simpa using hq2
                have hnz : Nm.rnorm b2 ≠ [(-1, 0)] := by
                  rw [HBL2.out]
                  intro h
                  simp at h
                  exact hq2 h
                have HNE : Hid (¬ ((3 : Int) = 3 ∧ Nm.zeroL b2 = true)) := fun h => hnz (HZ.out.2 h.2)
                clear hnz
                obtain ⟨qa, rfl, hqa⟩ := (at_reads HOA.out).tokA (by omega)
                have hcla : (tokCells (Nm.rnorm a)).length = La * 2 := HOA.out.1
                have hclb : (tokCells (Nm.rnorm b2)).length = 1 * 2 := HOB.out.1
                have ho0 : OwnA (wr.alloc (.cells #[] 92)) wr.heap.size (some ⟨wr.heap.size, 0, none⟩) 0 0 [] := World.ownsRow_made wr #[] 0 (Nat.le_refl _) (by simp [maxLen]) (by simp)
                have hb0 : Below wr.heap.size wr (wr.alloc (.cells #[] 92)).drew := ((Below.refl _ _).alloc (Nat.le_refl _) _).drew
                go_wp2_with fail
                go_region
                go_wp2_with (at_builtin; first
                  | (refine wpList_append_own _ rfl (.tmp 66) (.tmp 67) 138 rfl wr.heap.size 92 i0 (.agg #[.int .i64 0, .int .i64 0]) 2 16 Tryz.underlying138 hi hz0 hz1 hz2 rfl (by decide) (.slice (some ⟨wr.heap.size, 0, none⟩) 0 0) 0 (tokCells []) rfl ho0 qa La ca (tokCells (Nm.rnorm a)) rfl hcla (fun j u hu => ((at_reads (at_below' HOA.out hb0)).tokA (by omega)).elim fun q h => by obtain ⟨e, h⟩ := h; injection e with e; subst e; exact h.2 j u hu) (tokCells_one _) (by unfold maxLen; omega) (by omega) (by simp) ?_
                     intro v1 w1' hown1 hgrow1 hnil1
                     rw [tokCells_nil, List.nil_append, Nat.zero_add] at hown1
                     obtain ⟨g1, d1, rfl⟩ := own_form hown1 (by omega)
                     have hB1 : Below wr.heap.size wr w1' := hb0.grown hgrow1 (by simp) (fun k h => by have h' : wr.heap.size = k := (by simpa [Value.ownBlock] using h); omega)
                     have hsz1 := hB1.size)
                  | (refine wpList_append_own _ rfl (.tmp 68) (.tmp 69) 138 rfl wr.heap.size 92 i0 (.agg #[.int .i64 0, .int .i64 0]) 2 16 Tryz.underlying138 hi hz0 hz1 hz2 rfl (by decide) (.slice (some ⟨g1, 0, none⟩) La d1) La (tokCells (Nm.rnorm a)) rfl hown1 ⟨gb, ob, none⟩ 1 cb (tokCells (Nm.rnorm b2)) rfl hclb (fun j u hu => ((at_reads (at_below' HOB.out hB1)).tokA (by omega)).elim fun q h => by obtain ⟨e, h⟩ := h; injection e with e; subst e; exact h.2 j u hu) (tokCells_one _) (by unfold maxLen; omega) (by omega) (by omega) ?_
                     intro v2 w2' hown2 hgrow2 hnil2
                     obtain ⟨g2, d2, rfl⟩ := own_form hown2 (by omega)
                     have hB2 : Below wr.heap.size wr w2' := hB1.grown hgrow2 hsz1 (fun k h => (hown1.lt k h).1)
                     have ho2 : OwnA w2' wr.heap.size (some ⟨g2, 0, none⟩) (La + 1) d2 (Nm.rnorm a ++ Nm.rnorm b2) := by
                       unfold OwnA
                       rw [tokCells_append]
                       exact hown2
                     have hsz2 := hB2.size
                     have HLR := Lib.hid (l03Resid_any w2' w2'.heap.size (some ⟨g2, 0, none⟩) (La + 1) d2 (Nm.rnorm a ++ Nm.rnorm b2) s (Nat.le_refl _) (OwnA.reads ho2) (by omega) (by omega) HOKAB.out)
                     have HB2 := Lib.hid hB2
                     clear hown1 hgrow1 hnil1 hB1 hown2 hgrow2 hnil2 hB2 ho2 ho0 hb0))
                refine HLR.out.mono ?_
                rintro e wq ⟨Am, cm, rfl, hom, hbq⟩
                rw [HJ.out, HLM.out] at hom
                rw [HJ.out, HLM.out]
                have HBQ := Lib.hid (HB2.out.trans (hbq.mono hsz2))
                have hsq : wr.heap.size ≤ wq.heap.size := HBQ.out.size
                have HOM := Lib.hid (at_base hom (Nat.le_trans hszr hsz2))
                clear hom hbq HLR HB2
                have hpd := ((HP.out.below HBQ.out).alloc (.cells #[.slice Am Lm cm] 138)).drop 2 (by omega)
                obtain ⟨hD4, vals4, h24, h34⟩ := hpd
                have hba := (HBL.out.trans (HBQ.out.mono hszr)).alloc (Nat.le_trans hszr hsq) (.cells #[.slice Am Lm cm] 138)
                simp only [Nat.add_sub_cancel] at h24 hD4 h34
                clear HBQ
                go_wp2_with (at_builtin; refine wpList_append_own _ rfl (.tmp 76) (.tmp 78) 183 rfl w.heap.size 138 j0 (.slice none 0 0) 1 24 Tryz.underlying183 ji jz0 jz1 jz2 rfl (by decide) (.slice (some ⟨g, 0, none⟩) d c4) d vals4 rfl h24 ⟨wq.heap.size, 0, none⟩ 1 1 [.slice Am Lm cm] rfl rfl (cell_one_new _ _ _) (fun u hu => by simp at hu; subst hu; rfl) (by unfold maxLen; omega) (by omega) (by simp; omega) ?_
                             intro v' w3 hown' hgrow hnil
                             obtain ⟨g', c', rfl, hp3⟩ := PileO.push (a := Nm.rnorm (a ++ b2)) (A := Am) (ca := cm) hD4 h24 h34 (by rw [HLM.out]; exact at_below' HOM.out ((Below.refl _ _).alloc (Nat.le_refl _) _)) hgrow (by rw [HLM.out]; exact hown')
                             have HP3 := Lib.hid hp3
                             have HB3 : Hid (Below w.heap.size w w3) := hba.grown hgrow (by simp; omega) (fun k h => (h24.lt k h).1)
                             clear hown' hgrow hnil hp3 h24 h34 hba)
                go_wp2
                go_roundw
                case rel => exact ⟨k + 1, _, g', d + 1, c', by omega, by go_num, HR', rfl, Lib.hid (by rw [List.map_cons, if_neg HNE.out]; simpa using HP3.out), HB3.out⟩
                case measure => simp [intOf]; omega
            · have dz : (zp == -1) = false := by simpa using hq1
              have hnz : Nm.rnorm b2 ≠ [(-1, 0)] := by
                rw [HBL2.out]
                intro h
                simp at h
                exact hq1 h.1
              have HNE : Hid (¬ ((3 : Int) = 3 ∧ Nm.zeroL b2 = true)) := fun h => hnz (HZ.out.2 h.2)
              clear hnz
              obtain ⟨qa, rfl, hqa⟩ := (at_reads HOA.out).tokA (by omega)
              have hcla : (tokCells (Nm.rnorm a)).length = La * 2 := HOA.out.1
              have hclb : (tokCells (Nm.rnorm b2)).length = 1 * 2 := HOB.out.1
              have ho0 : OwnA (wr.alloc (.cells #[] 92)) wr.heap.size (some ⟨wr.heap.size, 0, none⟩) 0 0 [] := World.ownsRow_made wr #[] 0 (Nat.le_refl _) (by simp [maxLen]) (by simp)
              have hb0 : Below wr.heap.size wr (wr.alloc (.cells #[] 92)).drew := ((Below.refl _ _).alloc (Nat.le_refl _) _).drew
              go_wp2_with fail
              go_region
              go_wp2_with (at_builtin; first
                | (refine wpList_append_own _ rfl (.tmp 66) (.tmp 67) 138 rfl wr.heap.size 92 i0 (.agg #[.int .i64 0, .int .i64 0]) 2 16 Tryz.underlying138 hi hz0 hz1 hz2 rfl (by decide) (.slice (some ⟨wr.heap.size, 0, none⟩) 0 0) 0 (tokCells []) rfl ho0 qa La ca (tokCells (Nm.rnorm a)) rfl hcla (fun j u hu => ((at_reads (at_below' HOA.out hb0)).tokA (by omega)).elim fun q h => by obtain ⟨e, h⟩ := h; injection e with e; subst e; exact h.2 j u hu) (tokCells_one _) (by unfold maxLen; omega) (by omega) (by simp) ?_
                   intro v1 w1' hown1 hgrow1 hnil1
                   rw [tokCells_nil, List.nil_append, Nat.zero_add] at hown1
                   obtain ⟨g1, d1, rfl⟩ := own_form hown1 (by omega)
                   have hB1 : Below wr.heap.size wr w1' := hb0.grown hgrow1 (by simp) (fun k h => by have h' : wr.heap.size = k := (by simpa [Value.ownBlock] using h); omega)
                   have hsz1 := hB1.size)
                | (refine wpList_append_own _ rfl (.tmp 68) (.tmp 69) 138 rfl wr.heap.size 92 i0 (.agg #[.int .i64 0, .int .i64 0]) 2 16 Tryz.underlying138 hi hz0 hz1 hz2 rfl (by decide) (.slice (some ⟨g1, 0, none⟩) La d1) La (tokCells (Nm.rnorm a)) rfl hown1 ⟨gb, ob, none⟩ 1 cb (tokCells (Nm.rnorm b2)) rfl hclb (fun j u hu => ((at_reads (at_below' HOB.out hB1)).tokA (by omega)).elim fun q h => by obtain ⟨e, h⟩ := h; injection e with e; subst e; exact h.2 j u hu) (tokCells_one _) (by unfold maxLen; omega) (by omega) (by omega) ?_
                   intro v2 w2' hown2 hgrow2 hnil2
                   obtain ⟨g2, d2, rfl⟩ := own_form hown2 (by omega)
                   have hB2 : Below wr.heap.size wr w2' := hB1.grown hgrow2 hsz1 (fun k h => (hown1.lt k h).1)
                   have ho2 : OwnA w2' wr.heap.size (some ⟨g2, 0, none⟩) (La + 1) d2 (Nm.rnorm a ++ Nm.rnorm b2) := by
                     unfold OwnA
                     rw [tokCells_append]
                     exact hown2
                   have hsz2 := hB2.size
                   have HLR := Lib.hid (l03Resid_any w2' w2'.heap.size (some ⟨g2, 0, none⟩) (La + 1) d2 (Nm.rnorm a ++ Nm.rnorm b2) s (Nat.le_refl _) (OwnA.reads ho2) (by omega) (by omega) HOKAB.out)
                   have HB2 := Lib.hid hB2
                   clear hown1 hgrow1 hnil1 hB1 hown2 hgrow2 hnil2 hB2 ho2 ho0 hb0))
              refine HLR.out.mono ?_
              rintro e wq ⟨Am, cm, rfl, hom, hbq⟩
              rw [HJ.out, HLM.out] at hom
              rw [HJ.out, HLM.out]
              have HBQ := Lib.hid (HB2.out.trans (hbq.mono hsz2))
              have hsq : wr.heap.size ≤ wq.heap.size := HBQ.out.size
              have HOM := Lib.hid (at_base hom (Nat.le_trans hszr hsz2))
              clear hom hbq HLR HB2
              have hpd := ((HP.out.below HBQ.out).alloc (.cells #[.slice Am Lm cm] 138)).drop 2 (by omega)
              obtain ⟨hD4, vals4, h24, h34⟩ := hpd
              have hba := (HBL.out.trans (HBQ.out.mono hszr)).alloc (Nat.le_trans hszr hsq) (.cells #[.slice Am Lm cm] 138)
              simp only [Nat.add_sub_cancel] at h24 hD4 h34
              clear HBQ
              go_wp2_with (at_builtin; refine wpList_append_own _ rfl (.tmp 76) (.tmp 78) 183 rfl w.heap.size 138 j0 (.slice none 0 0) 1 24 Tryz.underlying183 ji jz0 jz1 jz2 rfl (by decide) (.slice (some ⟨g, 0, none⟩) d c4) d vals4 rfl h24 ⟨wq.heap.size, 0, none⟩ 1 1 [.slice Am Lm cm] rfl rfl (cell_one_new _ _ _) (fun u hu => by simp at hu; subst hu; rfl) (by unfold maxLen; omega) (by omega) (by simp; omega) ?_
                           intro v' w3 hown' hgrow hnil
                           obtain ⟨g', c', rfl, hp3⟩ := PileO.push (a := Nm.rnorm (a ++ b2)) (A := Am) (ca := cm) hD4 h24 h34 (by rw [HLM.out]; exact at_below' HOM.out ((Below.refl _ _).alloc (Nat.le_refl _) _)) hgrow (by rw [HLM.out]; exact hown')
                           have HP3 := Lib.hid hp3
                           have HB3 : Hid (Below w.heap.size w w3) := hba.grown hgrow (by simp; omega) (fun k h => (h24.lt k h).1)
                           clear hown' hgrow hnil hp3 h24 h34 hba)
              go_wp2
              go_roundw
              case rel => exact ⟨k + 1, _, g', d + 1, c', by omega, by go_num, HR', rfl, Lib.hid (by rw [List.map_cons, if_neg HNE.out]; simpa using HP3.out), HB3.out⟩
              case measure => simp [intOf]; omega
          · have dL : ((Lb : Int) == 1) = false := by simp; omega
            have hnz : Nm.rnorm b2 ≠ [(-1, 0)] := by
              intro h
              have h2 := HLB.out
              rw [h] at h2
              simp at h2
              omega
            have HNE : Hid (¬ ((3 : Int) = 3 ∧ Nm.zeroL b2 = true)) := fun h => hnz (HZ.out.2 h.2)
            clear hnz
            obtain ⟨qa, rfl, hqa⟩ := (at_reads HOA.out).tokA (by omega)
            have hcla : (tokCells (Nm.rnorm a)).length = La * 2 := HOA.out.1
            have hclb : (tokCells (Nm.rnorm b2)).length = Lb * 2 := HOB.out.1
            have ho0 : OwnA (wr.alloc (.cells #[] 92)) wr.heap.size (some ⟨wr.heap.size, 0, none⟩) 0 0 [] := World.ownsRow_made wr #[] 0 (Nat.le_refl _) (by simp [maxLen]) (by simp)
            have hb0 : Below wr.heap.size wr (wr.alloc (.cells #[] 92)).drew := ((Below.refl _ _).alloc (Nat.le_refl _) _).drew
            go_wp2_with fail
            go_region
            go_wp2_with (at_builtin; first
              | (refine wpList_append_own _ rfl (.tmp 66) (.tmp 67) 138 rfl wr.heap.size 92 i0 (.agg #[.int .i64 0, .int .i64 0]) 2 16 Tryz.underlying138 hi hz0 hz1 hz2 rfl (by decide) (.slice (some ⟨wr.heap.size, 0, none⟩) 0 0) 0 (tokCells []) rfl ho0 qa La ca (tokCells (Nm.rnorm a)) rfl hcla (fun j u hu => ((at_reads (at_below' HOA.out hb0)).tokA (by omega)).elim fun q h => by obtain ⟨e, h⟩ := h; injection e with e; subst e; exact h.2 j u hu) (tokCells_one _) (by unfold maxLen; omega) (by omega) (by simp) ?_
                 intro v1 w1' hown1 hgrow1 hnil1
                 rw [tokCells_nil, List.nil_append, Nat.zero_add] at hown1
                 obtain ⟨g1, d1, rfl⟩ := own_form hown1 (by omega)
                 have hB1 : Below wr.heap.size wr w1' := hb0.grown hgrow1 (by simp) (fun k h => by have h' : wr.heap.size = k := (by simpa [Value.ownBlock] using h); omega)
                 have hsz1 := hB1.size)
              | (refine wpList_append_own _ rfl (.tmp 68) (.tmp 69) 138 rfl wr.heap.size 92 i0 (.agg #[.int .i64 0, .int .i64 0]) 2 16 Tryz.underlying138 hi hz0 hz1 hz2 rfl (by decide) (.slice (some ⟨g1, 0, none⟩) La d1) La (tokCells (Nm.rnorm a)) rfl hown1 ⟨gb, ob, none⟩ Lb cb (tokCells (Nm.rnorm b2)) rfl hclb (fun j u hu => ((at_reads (at_below' HOB.out hB1)).tokA (by omega)).elim fun q h => by obtain ⟨e, h⟩ := h; injection e with e; subst e; exact h.2 j u hu) (tokCells_one _) (by unfold maxLen; omega) (by omega) (by omega) ?_
                 intro v2 w2' hown2 hgrow2 hnil2
                 obtain ⟨g2, d2, rfl⟩ := own_form hown2 (by omega)
                 have hB2 : Below wr.heap.size wr w2' := hB1.grown hgrow2 hsz1 (fun k h => (hown1.lt k h).1)
                 have ho2 : OwnA w2' wr.heap.size (some ⟨g2, 0, none⟩) (La + Lb) d2 (Nm.rnorm a ++ Nm.rnorm b2) := by
                   unfold OwnA
                   rw [tokCells_append]
                   exact hown2
                 have hsz2 := hB2.size
                 have HLR := Lib.hid (l03Resid_any w2' w2'.heap.size (some ⟨g2, 0, none⟩) (La + Lb) d2 (Nm.rnorm a ++ Nm.rnorm b2) s (Nat.le_refl _) (OwnA.reads ho2) (by omega) (by omega) HOKAB.out)
                 have HB2 := Lib.hid hB2
                 clear hown1 hgrow1 hnil1 hB1 hown2 hgrow2 hnil2 hB2 ho2 ho0 hb0))
            refine HLR.out.mono ?_
            rintro e wq ⟨Am, cm, rfl, hom, hbq⟩
            rw [HJ.out, HLM.out] at hom
            rw [HJ.out, HLM.out]
            have HBQ := Lib.hid (HB2.out.trans (hbq.mono hsz2))
            have hsq : wr.heap.size ≤ wq.heap.size := HBQ.out.size
            have HOM := Lib.hid (at_base hom (Nat.le_trans hszr hsz2))
            clear hom hbq HLR HB2
            have hpd := ((HP.out.below HBQ.out).alloc (.cells #[.slice Am Lm cm] 138)).drop 2 (by omega)
            obtain ⟨hD4, vals4, h24, h34⟩ := hpd
            have hba := (HBL.out.trans (HBQ.out.mono hszr)).alloc (Nat.le_trans hszr hsq) (.cells #[.slice Am Lm cm] 138)
            simp only [Nat.add_sub_cancel] at h24 hD4 h34
            clear HBQ
            go_wp2_with (at_builtin; refine wpList_append_own _ rfl (.tmp 76) (.tmp 78) 183 rfl w.heap.size 138 j0 (.slice none 0 0) 1 24 Tryz.underlying183 ji jz0 jz1 jz2 rfl (by decide) (.slice (some ⟨g, 0, none⟩) d c4) d vals4 rfl h24 ⟨wq.heap.size, 0, none⟩ 1 1 [.slice Am Lm cm] rfl rfl (cell_one_new _ _ _) (fun u hu => by simp at hu; subst hu; rfl) (by unfold maxLen; omega) (by omega) (by simp; omega) ?_
                         intro v' w3 hown' hgrow hnil
                         obtain ⟨g', c', rfl, hp3⟩ := PileO.push (a := Nm.rnorm (a ++ b2)) (A := Am) (ca := cm) hD4 h24 h34 (by rw [HLM.out]; exact at_below' HOM.out ((Below.refl _ _).alloc (Nat.le_refl _) _)) hgrow (by rw [HLM.out]; exact hown')
                         have HP3 := Lib.hid hp3
                         have HB3 : Hid (Below w.heap.size w w3) := hba.grown hgrow (by simp; omega) (fun k h => (h24.lt k h).1)
                         clear hown' hgrow hnil hp3 h24 h34 hba)
            go_wp2
            go_roundw
            case rel => exact ⟨k + 1, _, g', d + 1, c', by omega, by go_num, HR', rfl, Lib.hid (by rw [List.map_cons, if_neg HNE.out]; simpa using HP3.out), HB3.out⟩
            case measure => simp [intOf]; omega
        · obtain rfl : op = 4 := e
          obtain rfl := Nm.wstep_par hps
          have hy : 0 ≤ y ∧ y < 5 := by simp [Lv.tkOk] at htk; omega
          have hoky : Nm.AllOk [(y, 0)] := Nm.allOk_of_mem fun a ha => by
            obtain rfl : a = (y, 0) := by simpa using ha
            exact (Nm.atOk_iff _).2 (by simp; omega)
          have HRS : Hid (Nm.resid s [(y, 0)] = Nm.rnorm [Nm.pl s (y, 0)]) := rfl
          have hl6 := Nm.rnorm_len [Nm.pl s (y, 0)]
          obtain ⟨Lp, hLp⟩ : ∃ Lp, (Nm.rnorm [Nm.pl s (y, 0)]).length = Lp := ⟨_, rfl⟩
          rw [hLp] at hl6
          have HLP := Lib.hid hLp
          have hb0 : Below wr.heap.size wr (wr.alloc (.cells #[.int .i64 y, .int .i64 0] 92)) := (Below.refl _ _).alloc (Nat.le_refl _) _
          have hel : OwnA (wr.alloc (.cells #[.int .i64 y, .int .i64 0] 92)) wr.heap.size (some ⟨wr.heap.size, 0, none⟩) 1 1 [(y, 0)] := own_litO (Blk.made wr _ _) (Nat.le_refl _)
          have HLR := Lib.hid (l03Resid_any (wr.alloc (.cells #[.int .i64 y, .int .i64 0] 92)) _ (some ⟨wr.heap.size, 0, none⟩) 1 1 [(y, 0)] s (Nat.le_refl _) (OwnA.reads hel) (by omega) (by omega) hoky)
          have HB0 := Lib.hid hb0
          clear hps htk hfine hy hoky hel hb0 hLp
          go_wp2_with fail
          refine HLR.out.mono ?_
          rintro e wq ⟨Am, cm, rfl, hom, hbq⟩
          rw [HRS.out, HLP.out] at hom
          rw [HRS.out, HLP.out]
          have hbq2 := HB0.out.trans (hbq.mono (by simp))
          have hsq : wr.heap.size ≤ wq.heap.size := hbq2.size
          have HOM := Lib.hid (at_base hom (show w.heap.size ≤ _ by simp; omega))
          obtain ⟨hD, vals, h2, h3⟩ := (HP.out.below hbq2).alloc (.cells #[.slice Am Lp cm] 138)
          have hba := (HBL.out.trans (hbq2.mono hszr)).alloc (Nat.le_trans hszr hsq) (.cells #[.slice Am Lp cm] 138)
          clear hom hbq hbq2 HLR
          go_wp2_with (at_builtin; refine wpList_append_own _ rfl (.tmp 89) (.tmp 99) 183 rfl w.heap.size 138 j0 (.slice none 0 0) 1 24 Tryz.underlying183 ji jz0 jz1 jz2 rfl (by decide) (.slice (some ⟨g, 0, none⟩) D c4) D vals rfl h2 ⟨wq.heap.size, 0, none⟩ 1 1 [.slice Am Lp cm] rfl rfl (cell_one_new _ _ _) (fun u hu => by simp at hu; subst hu; rfl) (by unfold maxLen; omega) (by omega) (by simp; omega) ?_
                       intro v' w3 hown' hgrow hnil
                       obtain ⟨g', c', rfl, hp3⟩ := PileO.push (a := Nm.rnorm [Nm.pl s (y, 0)]) (A := Am) (ca := cm) hD h2 h3 (by rw [HLP.out]; exact at_below' HOM.out ((Below.refl _ _).alloc (Nat.le_refl _) _)) hgrow (by rw [HLP.out]; exact hown')
                       have HP3 := Lib.hid hp3
                       have HB3 : Hid (Below w.heap.size w w3) := hba.grown hgrow (by simp; omega) (fun k h => (h2.lt k h).1)
                       clear hown' hgrow hnil hp3 h2 h3 hba)
          go_wp2
          go_roundw
          case rel => exact ⟨k + 1, _, g', D + 1, c', by omega, by go_num, HR', rfl, HP3, HB3.out⟩
          case measure => simp [intOf]; omega
      · obtain rfl : k = n := by omega
        have htl : l.take k = l := List.take_of_length_le (by rw [hl.1]; exact Nat.le_refl _)
        obtain ⟨a, ha⟩ := Nm.wrun_one (s := s) HO.out
        have hst : st = [a] := by
          have h := HR.out
          rw [htl, ha] at h
          injection h with h
          exact h.symm
        subst hst
        have HLF := Lib.hid (Nm.wl_of ha)
        have hfa := hfine a (by simp)
        have hl1 : 1 ≤ (Nm.rnorm a).length := List.length_pos_iff.2 (Nm.rnorm_ne hfa.1 (hfine.allOk (by omega) (by simp)))
        have hl6 := Nm.rnorm_len a
        obtain rfl : 1 = D := hDl
        obtain ⟨Aa, ca, q1, q2⟩ := HP.out.at (i := 0) (a := Nm.rnorm a) rfl
        obtain ⟨La, hLa⟩ : ∃ La, (Nm.rnorm a).length = La := ⟨_, rfl⟩
        rw [hLa] at q1 q2 hl1 hl6
        have HLA := Lib.hid hLa
        have hb0 : Below wr.heap.size wr (wr.alloc (.cells #[] 92)) := (Below.refl _ _).alloc (Nat.le_refl _) _
        have ho0 : OwnA (wr.alloc (.cells #[] 92)) w.heap.size (some ⟨wr.heap.size, 0, none⟩) 0 0 [] := World.ownsRow_made wr #[] 0 hszr (by simp [maxLen]) (by simp)
        obtain ⟨qa, rfl, hqa⟩ := (at_reads (at_below' q2 hb0)).tokA (by omega)
        have hcl : (tokCells (Nm.rnorm a)).length = La * 2 := q2.1
        have q3 : (wr.alloc (.cells #[] 92)).cell? ⟨g, 0, none⟩ = some (.slice (some qa) La ca) := (hb0.cell (p := ⟨g, 0, none⟩) (World.block_lt_of_cell? wr _ q1)).trans q1
        clear hLa ha htl hfine hfa q2 q1
        go_wp2_with (at_builtin; refine wpList_append_own _ rfl (.tmp 115) (.tmp 118) 138 rfl w.heap.size 92 i0 (.agg #[.int .i64 0, .int .i64 0]) 2 16 Tryz.underlying138 hi hz0 hz1 hz2 rfl (by decide) (.slice (some ⟨wr.heap.size, 0, none⟩) 0 0) 0 (tokCells []) rfl ho0 qa La ca (tokCells (Nm.rnorm a)) rfl hcl hqa.2 (tokCells_one _) (by unfold maxLen; omega) (by omega) (by simp; omega) ?_
                     intro v1 w1' hown1 hgrow1 hnil1
                     rw [tokCells_nil, List.nil_append, Nat.zero_add] at hown1
                     obtain ⟨g1, d1, rfl⟩ := own_form hown1 (by omega)
                     have HB1 : Hid (Below w.heap.size w w1') := (hbel.alloc hszr _).grown hgrow1 (by simp; omega) (fun k h => by have h' : wr.heap.size = k := (by simpa [Value.ownBlock] using h); omega)
                     have HOW1 := Lib.hid hown1
                     clear hown1 hgrow1 hnil1)
        go_wp2
        go_ret2
        rw [HF.out, HLF.out]
        exact ⟨_, _, by simp only [Option.getD_some, HLA.out]; rfl, by simp only [Option.getD_some, HLA.out]; exact OwnO.of HOW1.out, HB1.out⟩
end Go.Proofs.YtgebjnoicgmdoaaGreatDoor
