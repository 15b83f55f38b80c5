/- slices.Repeat of one token, up to a thousand times. -/
/- The program's tokens of an atom. -/
/- The program's level without imax for a sign. -/
/- ResidOk of the program. -/
/- NormFree of the reference model. -/
/- Residual of the reference model (written by tools/mksres2.py). -/
/- Residual of the program. -/
/- The law FnExactResidual: the walk. -/
import Derived.Test.YtijiohdddfdjfaaDoorSlc
import Derived.Test.YtijiohdddfdjfaaDoorNUp
import Derived.Test.YtijiohdddfdjfaaDoorNMath4
import Derived.Test.YtijiohdddfdjfaaDoorPileT
import Derived.Test.YtijiohdddfdjfaaDoorPileO
import Derived.Deep.RegionLaw
import Derived.Deep.AppendLies
import Derived.Test.YtijiohdddfdjfaaDoorNOk2
import Derived.Test.YtijiohdddfdjfaaDoorSgHas
import Derived.Test.YtijiohdddfdjfaaDoorRsMath
import Derived.Test.YtijiohdddfdjfaaDoorNFree2
import Derived.Test.YtijiohdddfdjfaaDoorSpec
import Derived.Test.YtijiohdddfdjfaaDoorROk0

namespace Go.Proofs.YtijiohdddfdjfaaDoor
open Go.RowKit

end Go.Proofs.YtijiohdddfdjfaaDoor

namespace Go.Proofs.YtijiohdddfdjfaaDoor
open Go.RowKit

/-- an append in a region that draws its order, onto a row of the call's own -/
theorem step_append_own {P : Program} (w : World) {ops : Array Oper} {o : Oper} {a : Act} {K : Act → World → Prop} {Q : Exit → Act → World → Prop} {E : Prop} (hgd : o.guard = none) (s x : Operand) (t : TypeId)
    (ho : o.op = .call { callee := .builtin .append, args := #[s, x], argTypes := #[t, t] })
    (base : Nat) (e : TypeId) (i : TypeInfo) (z : Value) (size bytes : Nat) (ht : P.underlying t = some (.slice e)) (hi : P.info? e = some i) (hz : i.zero = some z)
    (hsize : i.size = size) (hby : i.bytes = bytes) (hzs : z.cells.size = size) (hsz : 0 < size)
    (v : Value) (n : Nat) (xs : List Value) (hs : a.eval s = v) (hown : w.ownsRow base e size v n xs)
    (ad : Addr) (m c : Nat) (news : List Value) (hx : a.eval x = .slice (some ad) m c) (hl : news.length = m * size) (hnews : ∀ j u, news[j]? = some u → w.cell? (ad.add j) = some u) (h1 : ∀ u ∈ news, u.oneCell' = true)
    (h63 : n + m ≤ maxLen) (hbytes : (n + m) * bytes ≤ 140737488355328) (hbase : base ≤ w.heap.size)
    (h : ∀ v' w', w'.ownsRow base e size v' (n + m) (xs ++ news) → w.grownBy w' v.ownBlock → (v' = .slice none 0 0 ↔ v = .slice none 0 0 ∧ m = 0) → K (a.put o.dst v') w') :
    if Region.wanted o (yielded ops a.tmps) = true then Oper.wp P o a w K Q else E := by
  rw [if_pos (by simp [Region.wanted, hgd])]
  exact wp_append_own w s x t ho base e i z size bytes ht hi hz hsize hby hzs hsz v n xs hs hown ad m c news hx hl hnews h1 h63 hbytes hbase h

theorem own_litT {w : World} {g base : Nat} {a b : Int} (h : Blk w g 66 #[.int .i64 a, .int .i64 b]) (hb : base ≤ g) : OwnT w base (some ⟨g, 0, none⟩) 1 1 [(a, b)] :=
  ⟨rfl, .inr ⟨g, 1, #[.int .i64 a, .int .i64 b], rfl, hb, h, Nat.le_refl _, by simp [maxLen], rfl, rfl⟩⟩

end Go.Proofs.YtijiohdddfdjfaaDoor

namespace Go.Proofs.YtijiohdddfdjfaaDoor
open Go.RowKit

theorem own_slice {w : World} {base : Nat} {e : TypeId} {size n : Nat} {v : Value} {xs : List Value} (h : w.ownsRow base e size v n xs) : ∃ A c, v = .slice A n c := by
  rcases h.2 with ⟨h0, h1⟩ | ⟨g, c, _, hv, _⟩
  · subst h1; exact ⟨none, 0, h0⟩
  · exact ⟨_, c, hv⟩
theorem wlen_runT {s : Int} {l : List (Int × Int)} {st : List (List (Int × Int))} (h : Nm.wrun s l [] = some st) : st.length ≤ l.length := by
  have h1 := Nm.wrun_height (s := s) (l := l) []
  rw [h] at h1
  have key : ∀ (l : List (Int × Int)) (n m : Int), Lv.hts l n = some m → m ≤ n + l.length := by
    intro l
    induction l with
    | nil => intro n m h; simp only [Lv.hts] at h; injection h with h; subst h; simp
    | cons t r ih =>
      intro n m h
      simp only [Lv.hts] at h
      split at h
      · have := ih _ _ h
        have := Lv.takes_bd t.1
        rw [List.length_cons]
        omega
      · cases h
  have := key l 0 st.length (by simpa using h1.symm)
  omega
theorem newsT2 (X : World) (o : Obj) (p x : Int) : ∀ j u, (tokCells [(p, x)])[j]? = some u → ((X.alloc o).alloc (.cells #[.int .i64 p, .int .i64 x] 66)).cell? ((⟨X.heap.size + 1, 0, none⟩ : Addr).add j) = some u := by
  have h := World.news_of_block (w := (X.alloc o).alloc (.cells #[.int .i64 p, .int .i64 x] 66)) (cs := #[.int .i64 p, .int .i64 x]) (t := 66) (fr := (0, 0)) (heap_alloc_new (X.alloc o) _)
  rw [World.size_alloc] at h
  exact h

set_option maxRecDepth 100000 in
set_option maxHeartbeats 12800000 in
theorem withoutImax_any (w : World) (B : Nat) (A : Option Addr) (n c : Nat) (l : List (Int × Int)) (s : Int) (T : TypeId) (pv : Value) (h0 : 0 < B) (hB : B ≤ w.heap.size)
    (hl : TokR w B A n l) (hok : Lv.levelOk l = true) (hs : Sg.isSign s = true) (hE : ErrAt w T pv) :
    Calls Tryd.prog 79 #[.slice A n c, .int .i64 s] w fun e w' => ∃ g cp ts, e = .returned (.slice (some ⟨g, 0, none⟩) ts.length cp) ∧ OwnT w' w.heap.size (some ⟨g, 0, none⟩) ts.length cp ts ∧ Nm.TRel ts (Nm.wl s l) ∧ ts.length ≤ 24 ∧ Below w.heap.size w w' := by
  obtain ⟨i0, hi, hz0, hz1, hz2⟩ := info_parts info_tok
  obtain ⟨j0, ji, jz0, jz1, jz2⟩ := info_parts info_toks
  have hn24 : n ≤ 24 := by rw [← hl.1]; exact (ok_lenN hok).2
  have hn1 : 1 ≤ n := by rw [← hl.1]; exact (ok_lenN hok).1
  have HO := Lib.hid hok
  have HSG := Lib.hid hs
  have HEE := Lib.hid hE
  clear hok hs hE
  have HP0 : Hid (PileT w w.heap.size (.slice none 0 0) 0 [] [] (fun _ => 0) (fun _ => 0)) := ⟨rfl, World.ownsRow_nil _ _ _ _, fun i j hi => by omega, fun i hi => by omega⟩
  go_enter Tryd.func79, Tryd.ntmps79
  go_wp2
  go_loopw [5, 11] (fun v i wr => ∃ (k : Nat) (st : List (List (Int × Int))) (ts : List (List (Int × Int))) (D : Nat) (vals : List Value) (G C : Nat → Nat), k ≤ n ∧ i = .int .i64 k ∧ Hid (Nm.wrun s (l.take k) [] = some st) ∧ Hid (Nm.TS ts st) ∧ (ts.map List.length).sum ≤ k ∧ Hid (PileT wr w.heap.size v D ts.reverse vals G C) ∧ Below w.heap.size w wr) (fun _ i _ => n - (intOf i).toNat)
  case atStart => exact ⟨0, [], [], 0, [], _, _, Nat.zero_le _, rfl, Lib.hid rfl, Lib.hid trivial, by simp, HP0, Below.refl _ _⟩
  case round =>
    rename_i vst _
    obtain ⟨k, st, ts, D, vals, G, C, hk, rfl, HR, HTS, hsum, HP, hbel⟩ := hrel
    have hszr := hbel.size
    have hDl : ts.length = D := by have := HP.out.1; rw [List.length_reverse] at this; exact this
    have hDs : st.length = D := by rw [← hDl]; exact HTS.out.len.symm
    have hD24 : D ≤ 24 := by
      have h1 := wlen_runT HR.out
      rw [List.length_take] at h1
      omega
    have hfine := Nm.wfine_take HR.out (by omega)
    obtain ⟨Av, cv, hv⟩ := own_slice HP.out.2.1
    subst hv
    by_cases hlt : k < n
    · obtain ⟨b, off, rfl, hb, hc⟩ := hl.2 (by omega)
      obtain ⟨x1, x2⟩ := hc k hlt
      have hkl : k < l.length := by rw [hl.1]; exact hlt
      obtain ⟨t, ht⟩ : ∃ t, l.getD k (0, 0) = t := ⟨_, rfl⟩
      have k1 := (hbel.cell (p := ⟨b, off + k * 2, none⟩) (by show b < _; omega)).trans x1
      have k2 := (hbel.cell (p := ⟨b, off + k * 2 + 1, none⟩) (by show b < _; omega)).trans x2
      rw [ht] at k1 k2
      have hki : (k : Int) < (n : Int) := by omega
      obtain ⟨st', hst'⟩ := Nm.wrun_some (s := s) HO.out (k + 1)
      have HR' := Lib.hid hst'
      have hps : Nm.wstep s (l.getD k (0, 0)) st = some st' := by
        have h := Nm.wrun_take_succ s l k hkl []
        rw [hst', HR.out] at h
        exact h.symm
      rw [ht] at hps
      have htk := Nm.wstep_ok hps
      obtain ⟨op, y⟩ := t
      simp only at k1 k2
      have HL := Lib.hid hl
      have HBL := Lib.hid hbel
      have hb1 := hbel.alloc hszr (.cells #[.int .i64 op, .int .i64 y] 66)
      have hba : Below wr.heap.size wr (wr.alloc (.cells #[.int .i64 op, .int .i64 y] 66)) := (Below.refl _ _).alloc (Nat.le_refl _) _
      clear x1 x2 hc ht hst' hl hkl hbel
      rcases (show (op = 0 ∨ op = 4) ∨ op = 1 ∨ (op = 2 ∨ op = 3) by have := Lv.tk_cases htk; simp only at this; omega) with e | e | e
      · have hleaf : ∃ a, st' = a :: st ∧ Nm.TRel [leafT s (op, y)] a := by
          rcases e with rfl | rfl
          · refine ⟨_, Nm.wstep_zero hps, ?_⟩
            have hy : y = 0 := by simp [Lv.tkOk] at htk; omega
            subst hy
            exact Nm.trel_zero
          · refine ⟨_, Nm.wstep_par hps, ?_⟩
            have hy : 0 ≤ y ∧ y < 5 := by simp [Lv.tkOk] at htk; omega
            exact Nm.trel_leaf hy.1 hy.2
        obtain ⟨a, rfl, hrel⟩ := hleaf
        have HREL := Lib.hid hrel
        have HLF := Lib.hid (leafFor_any (wr.alloc (.cells #[.int .i64 op, .int .i64 y] 66)) op y s)
        generalize leafT s (op, y) = tt at HREL HLF
        obtain ⟨p', y'⟩ := tt
        simp only at HLF
        have HBA := Lib.hid hba
        have HB1 := Lib.hid hb1
        clear hps htk hfine hrel hba hb1
        rcases e with rfl | rfl
        all_goals
          go_wp2_with fail
          refine HLF.out.mono ?_
          rintro e w1 ⟨rfl, hbl⟩
          have hb01 := HBA.out.trans (hbl.mono (by simp))
          have hs1 := hb01.size
          have hp1 := (HP.out.below hb01).below (((Below.refl _ _).alloc (Nat.le_refl _) (.cells #[.int .i64 p', .int .i64 y'] 66)).alloc (by simp) (.cells #[.slice (some ⟨w1.heap.size, 0, none⟩) 1 1] 24))
          have hel : OwnT ((w1.alloc (.cells #[.int .i64 p', .int .i64 y'] 66)).alloc (.cells #[.slice (some ⟨w1.heap.size, 0, none⟩) 1 1] 24)) w.heap.size (some ⟨w1.heap.size, 0, none⟩) 1 1 [(p', y')] := own_litJ ((Blk.made w1 _ _).alloc _) (Nat.le_trans hszr hs1)
          have hbb := ((HBL.out.trans (hb01.mono hszr)).alloc (Nat.le_trans hszr hs1) (.cells #[.int .i64 p', .int .i64 y'] 66)).alloc (by simp; omega) (.cells #[.slice (some ⟨w1.heap.size, 0, none⟩) 1 1] 24)
          have hfar : ∀ i, i < D → G i ≠ w1.heap.size := fun i hi => by have := (HP.out.lt hi).2; omega
          clear hbl hb01
          go_wp2_with (at_builtin; refine wpList_append_own _ rfl (.tmp 23) (.tmp 28) 126 rfl w.heap.size 24 j0 (.slice none 0 0) 1 24 Tryd.underlying126 ji jz0 jz1 jz2 rfl (by decide) (.slice Av D cv) D vals rfl hp1.2.1 ⟨w1.heap.size + 1, 0, none⟩ 1 1 [.slice (some ⟨w1.heap.size, 0, none⟩) 1 1] rfl rfl (news_one _ _ _ _) (fun u hu => by simp at hu; subst hu; rfl) (by unfold maxLen; omega) (by omega) (by simp; omega) ?_
                       intro v' w3 hown' hgrow hnil
                       have HP3 := Lib.hid (PileT.push (x := [(p', y')]) hp1 hel hfar hgrow hown')
                       have HB3 : Hid (Below w.heap.size w w3) := hbb.grown hgrow (by simp; omega) (fun k h => (hp1.2.1.lt k h).1)
                       obtain ⟨A3, c3, rfl⟩ := own_slice hown'
                       clear hown' hgrow hnil hp1 hel hbb hfar)
          go_wp2
          go_roundw
          case rel => exact ⟨k + 1, _, [(p', y')] :: ts, D + 1, _, _, _, by omega, by go_num, HR', Lib.hid ⟨HREL.out, HTS.out⟩, by simp only [List.map_cons, List.sum_cons, List.length_cons, List.length_nil]; omega, Lib.hid (by rw [List.reverse_cons]; exact HP3.out), HB3.out⟩
          case measure => simp [intOf]; omega
      · subst e
        have hy : y = 0 := by simp [Lv.tkOk] at htk; omega
        subst hy
        obtain ⟨a, r, rfl, rfl⟩ := Nm.wstep_succ hps
        obtain ⟨ta, tr, rfl⟩ : ∃ ta tr, ts = ta :: tr := by
          cases ts with
          | nil => simp at hDl; simp at hDs; omega
          | cons ta tr => exact ⟨ta, tr, rfl⟩
        obtain ⟨d, rfl⟩ : ∃ d, D = d + 1 := ⟨tr.length, by rw [← hDl]; rfl⟩
        have hsd : tr.length = d := by simpa using hDl
        obtain ⟨g, rfl⟩ : ∃ g, Av = some ⟨g, 0, none⟩ := by
          obtain ⟨g, c, hh⟩ := own_form HP.out.2.1 (by omega)
          injection hh with e1
          exact ⟨g, e1⟩
        have hrt := rev_top ta tr d hsd []
        have hat := HP.out.at (i := d) (by omega)
        rw [hrt.1] at hat
        have hrow := (HP.out.2.2.2 d (by omega)).2
        rw [hrt.1] at hrow
        obtain ⟨La, hLa⟩ : ∃ La, ta.length = La := ⟨_, rfl⟩
        rw [hLa] at hat hrow
        have hsum2 : La + (tr.map List.length).sum ≤ k := by rw [← hLa]; simpa using hsum
        obtain ⟨gt, hgt⟩ : ∃ gt, G d = gt := ⟨_, rfl⟩
        obtain ⟨ct, hct⟩ : ∃ ct, C d = ct := ⟨_, rfl⟩
        rw [hgt, hct] at hat hrow
        have hgw : g < wr.heap.size := World.block_lt_of_cell? wr _ hat
        have hgt2 : gt < wr.heap.size := (hrow.lt gt rfl).2
        have hld : ∀ ob, (wr.alloc ob).cell? ⟨g, d, none⟩ = some (.slice (some ⟨gt, 0, none⟩) La ct) := fun ob => (((Below.refl wr.heap.size wr).alloc (Nat.le_refl _) ob).cell (p := ⟨g, d, none⟩) hgw).trans hat
        have hld2 : ∀ ob ob2, ((wr.alloc ob).alloc ob2).cell? ⟨g, d, none⟩ = some (.slice (some ⟨gt, 0, none⟩) La ct) := fun ob ob2 => ((((Below.refl wr.heap.size wr).alloc (Nat.le_refl _) ob).alloc (by simp) ob2).cell (p := ⟨g, d, none⟩) hgw).trans hat
        have hw1 : IntKind.i64.wrap ((d : Int) + 1 - 1) = (d : Int) := by rw [IntKind.wrap_i64]; omega
        have n1 : (0 : Int) ≤ (d : Int) := by omega
        have n4 : (d : Int) < (d : Int) + 1 := by omega
        have hlen1 : (tokCells [((1 : Int), (0 : Int))]).length = 1 * 2 := rfl
        have HAP := Lib.hid (own_apartK HP.out.2.1 hrow (by decide))
        have HVD : Hid (vals[d]? = some (.slice (some ⟨gt, 0, none⟩) La ct)) := by
          have h9 := (HP.out.2.2.2 d (by omega)).1
          rw [hrt.1, hLa, hgt, hct] at h9
          exact h9
        have HXL : Hid ((ta ++ [((1 : Int), (0 : Int))]).length = La + 1) := by unfold Hid; rw [List.length_append, hLa]; rfl
        have HGD := Lib.hid (HP.out.2.1.lt g rfl).1
        have HROW := Lib.hid hrow
        have HHAT := Lib.hid hat
        have HRT := Lib.hid hrt
        have HLA := Lib.hid hLa
        have HGT := Lib.hid hgt
        have HB1 := Lib.hid hb1
        have HRA := Lib.hid HTS.out
        clear hps htk hfine hrow hat hrt hLa hgt hct hba hb1 hDl hDs
        go_wp2_with fail
        go_region_law (first
          | (refine step_append_lies _ (by rfl) _ _ _ (by rfl) w.heap.size 66 i0 _ 2 16 Tryd.underlying24 hi hz0 hz1 hz2 rfl (by omega) (.slice (some ⟨gt, 0, none⟩) La ct) La (tokCells ta) (by rfl) ?hown ⟨wr.heap.size + 1, 0, none⟩ 1 1 (tokCells [(1, 0)]) (by rfl) hlen1 ?hnews (tokCells_one _) (by omega) (by unfold maxLen; omega) (by omega) ?hbase (wr.heap.size + 1 + 1) (by simp) ?_
             case hown => exact (World.ownsRow.alloc (World.ownsRow.alloc HROW.out _) _)
             case hnews => exact newsT2 _ _ _ _
             case hbase => simp; omega
             intro g' cap' w3 hown' hgrow hat' hlt'
             have hpw : w3.ownsRow w.heap.size 24 1 (.slice (some ⟨g, 0, none⟩) (d + 1) cv) (d + 1) vals := by
               refine World.ownsRow.kept ?_ hgrow HAP.out
               exact ((HP.out.2.1.alloc _).alloc _)
             have s3 : w3.cell? ⟨g, d, none⟩ = some (.slice (some ⟨gt, 0, none⟩) La ct) := by
               have h9 := hpw.cells (g := g) rfl d _ HVD.out
               rw [own_adds] at h9
               exact h9
             have f3 : w3.frozen? ⟨g, d, none⟩ = false := by
               obtain ⟨cs, hblk⟩ := own_blk hpw g rfl
               exact hblk.thawed d
             have ho3 : OwnT w3 w.heap.size (some ⟨g', 0, none⟩) (ta ++ [((1 : Int), (0 : Int))]).length cap' (ta ++ [(1, 0)]) := by
               rw [HXL.out]
               unfold OwnT
               rw [tokCells_append]
               exact hown'
             have hx3 : g' = gt ∨ wr.heap.size + 2 ≤ g' := by
               rcases hat' with h | h
               · left
                 have h' : gt = g' := (by simpa [Value.ownBlock] using h)
                 exact h'.symm
               · right
                 omega
             have HPN := Lib.hid (PileT.grown (x := ta ++ [(1, 0)]) (HP.out.below (((Below.refl _ _).alloc (Nat.le_refl _) _).alloc (by simp) _).drew) (i := d) (by omega) (by rw [HGT.out]; exact hgrow) ho3 (by rw [HGT.out]; simpa using hx3))
             rw [HXL.out] at HPN
             have HBN : Hid (Below w.heap.size w w3) := ((HB1.out.alloc (by simp; omega) _).drew).grown hgrow (by simp; omega) (fun k h => by have h' : gt = k := (by simpa [Value.ownBlock] using h); have := (HROW.out.lt gt rfl).1; omega)
             clear hown' hgrow hat' hlt' hpw ho3 hx3))
        all_goals
          have HBS := Lib.hid (HBN.out.setCell (p := ⟨g, d, none⟩) HGD.out (.slice (some ⟨g', 0, none⟩) (La + 1) cap'))
          clear s3 f3
          go_wp2
          go_roundw
          case rel => exact ⟨k + 1, _, (ta ++ [(1, 0)]) :: tr, d + 1, _, _, _, by omega, by go_num, HR', Lib.hid ⟨Nm.trel_succ HTS.out.1, HTS.out.2⟩, by simp only [List.map_cons, List.sum_cons, HXL.out]; omega, Lib.hid (by rw [← HRT.out.2]; exact HPN.out), HBS.out⟩
          case measure => simp [intOf]; omega
      · obtain ⟨a, b2, r, rfl, rfl⟩ := Nm.wstep_two hps e
        obtain ⟨tb, ta, tr, rfl⟩ : ∃ tb ta tr, ts = tb :: ta :: tr := by
          match ts, hDl with
          | [], hDl => simp at hDl; simp at hDs; omega
          | [x], hDl => simp at hDl; simp at hDs; omega
          | tb :: ta :: tr, _ => exact ⟨tb, ta, tr, rfl⟩
        obtain ⟨d, rfl⟩ : ∃ d, D = d + 2 := ⟨tr.length, by rw [← hDl]; rfl⟩
        have hsd : tr.length = d := by simpa using hDl
        obtain ⟨g, rfl⟩ : ∃ g, Av = some ⟨g, 0, none⟩ := by
          obtain ⟨g, c, hh⟩ := own_form HP.out.2.1 (by omega)
          injection hh with e1
          exact ⟨g, e1⟩
        obtain ⟨hr1, hr2, hr3⟩ := rev_two tb ta tr d hsd []
        have hata := HP.out.at (i := d) (by omega)
        have hatb := HP.out.at (i := d + 1) (by omega)
        rw [hr1] at hata
        rw [hr2] at hatb
        have hrowa := (HP.out.2.2.2 d (by omega)).2
        have hrowb := (HP.out.2.2.2 (d + 1) (by omega)).2
        rw [hr1] at hrowa
        rw [hr2] at hrowb
        obtain ⟨La, hLa⟩ : ∃ La, ta.length = La := ⟨_, rfl⟩
        obtain ⟨Lb, hLb⟩ : ∃ Lb, tb.length = Lb := ⟨_, rfl⟩
        obtain ⟨Lj, hLj⟩ : ∃ Lj, (joinT s op ta tb).length = Lj := ⟨_, rfl⟩
        have hrb := HTS.out.1
        have hra := HTS.out.2.1
        have hpa := hra.pos
        have hpb := hrb.pos
        have hjl := Nm.joinT_len s op ta tb
        have hsum2 : Lb + (La + (tr.map List.length).sum) ≤ k := by rw [← hLa, ← hLb]; simpa using hsum
        rw [hLa] at hata hrowa hpa
        rw [hLb] at hatb hrowb hpb
        rw [hLj, hLa, hLb] at hjl
        obtain ⟨gta, hgta⟩ : ∃ q, G d = q := ⟨_, rfl⟩
        obtain ⟨cta, hcta⟩ : ∃ q, C d = q := ⟨_, rfl⟩
        obtain ⟨gtb, hgtb⟩ : ∃ q, G (d + 1) = q := ⟨_, rfl⟩
        obtain ⟨ctb, hctb⟩ : ∃ q, C (d + 1) = q := ⟨_, rfl⟩
        rw [hgta, hcta] at hata hrowa
        rw [hgtb, hctb] at hatb hrowb
        have hgw : g < wr.heap.size := World.block_lt_of_cell? wr _ hata
        have hld : ∀ ob, (wr.alloc ob).cell? ⟨g, d, none⟩ = some (.slice (some ⟨gta, 0, none⟩) La cta) := fun ob => (((Below.refl wr.heap.size wr).alloc (Nat.le_refl _) ob).cell (p := ⟨g, d, none⟩) hgw).trans hata
        have hld2 : ∀ ob, (wr.alloc ob).cell? ⟨g, d + 1, none⟩ = some (.slice (some ⟨gtb, 0, none⟩) Lb ctb) := fun ob => (((Below.refl wr.heap.size wr).alloc (Nat.le_refl _) ob).cell (p := ⟨g, d + 1, none⟩) hgw).trans hatb
        have hw1 : IntKind.i64.wrap ((d : Int) + 2 - 1) = (d : Int) + 1 := by rw [IntKind.wrap_i64]; omega
        have hw2 : IntKind.i64.wrap ((d : Int) + 1 - 1) = (d : Int) := by rw [IntKind.wrap_i64]; omega
        have hw3 : IntKind.i64.wrap (d : Int) = (d : Int) := by rw [IntKind.wrap_i64]; omega
        have n1 : (0 : Int) ≤ (d : Int) := by omega
        have n3 : (0 : Int) ≤ (d : Int) + 1 := by omega
        have n4 : (d : Int) < (d : Int) + 2 := by omega
        have n5 : (d : Int) + 1 < (d : Int) + 2 := by omega
        have n6 : ((d : Int) + 1).toNat = d + 1 := by omega
        have HJF : Hid (∀ X : World, Below wr.heap.size wr X → Calls Tryd.prog 101 #[.int .i64 op, .slice (some ⟨gta, 0, none⟩) La cta, .slice (some ⟨gtb, 0, none⟩) Lb ctb, .int .i64 s] X (ResT X (joinT s op ta tb))) := fun X hX =>
          joinFor_any X X.heap.size op s _ La cta ta _ Lb ctb tb T pv (by have := hX.size; omega) (Nat.le_refl _) (OwnT.reads (own_below' hrowa hX)) (by omega) hpa (OwnT.reads (own_below' hrowb hX)) (by omega) hpb (HEE.out.below ((HBL.out.trans (hX.mono hszr)).mono hB) h0)
        have hfb := hfine b2 (by simp)
        have HREL := Lib.hid (Nm.ts_join (op := op) hra hrb (by omega) HSG.out hfb.2.1 (hfine.allOk (by omega) (by simp)))
        have HLJ := Lib.hid hLj
        have HGD := Lib.hid (HP.out.2.1.lt g rfl).1
        have HR3 := Lib.hid hr3
        have HATA := Lib.hid hata
        have HB1 := Lib.hid hb1
        have hcap : d + 2 ≤ cv := own_capR HP.out.2.1
        have n7 : d + 1 ≤ cv := by omega
        have n8 : (d : Int) + 1 ≤ (cv : Int) := by omega
        have HFAR : Hid (∀ j, j < d + 2 → G j < wr.heap.size) := fun j hj => (HP.out.lt hj).2
        clear hps htk hfine hfb hrowa hrowb hata hatb hr1 hr2 hr3 hLa hLb hLj hra hrb hgta hcta hgtb hctb hba hb1 hDl hDs
        rcases e with rfl | rfl
        all_goals
          go_wp2_with fail
          go_region_law (first
            | (go_simp
               go_at_call 101
               refine (HJF.out _ ((Below.refl _ _).alloc (Nat.le_refl _) _).drew).mono ?_
               rintro e w3 ⟨gj, cj, rfl, hoj, hbj⟩
               rw [HLJ.out] at hoj ⊢
               have hb03 : Below wr.heap.size wr w3 := Below.trans (((Below.refl _ _).alloc (Nat.le_refl _) _).drew) (hbj.mono (by simp))
               have hs3 := hb03.size
               have hp3 := HP.out.below hb03
               have s3 := (hb03.cell (p := ⟨g, d, none⟩) hgw).trans HATA.out
               have f3 : w3.frozen? ⟨g, d, none⟩ = false := by
                 obtain ⟨cs, hblk⟩ := own_blk hp3.2.1 g rfl
                 exact hblk.thawed d
               have hgj := (hoj.lt gj rfl).1
               have HPN := Lib.hid ((PileT.put hp3 (i := d) (x := joinT s _ ta tb) (gx := gj) (cx := cj) (by omega) (by rw [HLJ.out]; exact own_base hoj (by simp; omega)) (fun j hj _ => by have := HFAR.out j hj; simp at hgj; omega)).take (m := d + 1) (by omega))
               rw [HLJ.out] at HPN
               have HBS := Lib.hid ((HBL.out.trans (hb03.mono hszr)).setCell (p := ⟨g, d, none⟩) HGD.out (.slice (some ⟨gj, 0, none⟩) Lj cj))
               clear hoj hbj hb03 hp3 hgj))
        all_goals
          clear s3 f3 HJF
          go_wp2
          go_roundw
          case rel => exact ⟨k + 1, _, joinT s _ ta tb :: tr, d + 1, _, _, _, by omega, by go_num, HR', Lib.hid ⟨HREL.out, HTS.out.2.2⟩, by simp only [List.map_cons, List.sum_cons, HLJ.out]; omega, Lib.hid (by rw [← HR3.out]; exact HPN.out), HBS.out⟩
          case measure => simp [intOf]; omega
    · obtain rfl : k = n := by omega
      have htl : l.take k = l := List.take_of_length_le (by rw [hl.1]; exact Nat.le_refl _)
      obtain ⟨a, ha⟩ := Nm.wrun_one (s := s) HO.out
      have hst : st = [a] := by
        have h := HR.out
        rw [htl, ha] at h
        injection h with h
        exact h.symm
      subst hst
      have HLF := Lib.hid (Nm.wl_of ha)
      obtain ⟨t, rfl⟩ : ∃ t, ts = [t] := by
        match ts, HTS.out with
        | [t], _ => exact ⟨t, rfl⟩
        | _ :: _ :: _, h => exact h.2.elim
        | [], h => exact h.elim
      obtain rfl : 1 = D := hDl
      obtain ⟨g, rfl⟩ : ∃ g, Av = some ⟨g, 0, none⟩ := by
        obtain ⟨g, c, hh⟩ := own_form HP.out.2.1 (by omega)
        injection hh with e1
        exact ⟨g, e1⟩
      have hat := HP.out.at (i := 0) (by omega)
      have hrow := (HP.out.2.2.2 0 (by omega)).2
      have HROW := Lib.hid hrow
      have HTR := Lib.hid HTS.out.1
      have h24 : t.length ≤ 24 := by simp at hsum; omega
      obtain ⟨gt, hgt⟩ : ∃ gt, G 0 = gt := ⟨_, rfl⟩
      obtain ⟨ct, hct⟩ : ∃ ct, C 0 = ct := ⟨_, rfl⟩
      rw [hgt, hct] at hat HROW
      have e0 : ([t].reverse).getD 0 [] = t := rfl
      rw [e0] at hat HROW
      obtain ⟨Lt, hLt⟩ : ∃ Lt, t.length = Lt := ⟨_, rfl⟩
      rw [hLt] at hat
      have HLT := Lib.hid hLt
      clear hrow hgt hct e0 hLt ha htl hfine
      go_wp2
      go_ret
      exact ⟨gt, ct, t, by rw [HLT.out]; rfl, HROW.out, by rw [HLF.out]; exact HTR.out, h24, hbel⟩
end Go.Proofs.YtijiohdddfdjfaaDoor

namespace Go.Proofs.YtijiohdddfdjfaaDoor
open Go.RowKit

set_option maxRecDepth 100000 in
set_option maxHeartbeats 800000 in
theorem numberIsNeeded_any (w : World) (B : Nat) (b off n c : Nat) (l : List (Int × Int)) (hB : B ≤ w.heap.size) (hl : TokR w B (some ⟨b, off, none⟩) n l) (hn : (n : Int) ≤ 140737488355328) (h1 : 1 ≤ n) (hnc : n ≤ c) (hok : Nm.AllOk l) :
    Calls Tryd.prog 56 #[.slice (some ⟨b, off, none⟩) n c] w fun e w' => e = .returned (.bool (Nm.exceeds ((l.getD 0 (0, 0)).2 - 1) (l.drop 1))) ∧ Below w.heap.size w w' := by
  obtain ⟨b', off', e, hb, hc⟩ := hl.2 (by omega)
  injection e with e
  injection e with e1 e2
  subst e1; subst e2
  obtain ⟨c1, c2⟩ := hc 0 (by omega)
  have h2 := (Nm.atOk_iff _).1 (hok 0 (by have := hl.1; omega))
  obtain ⟨x, hx⟩ : ∃ x, (l.getD 0 (0, 0)).2 = x := ⟨_, rfl⟩
  rw [hx] at c2 h2 ⊢
  obtain ⟨_, _, h3, h4⟩ := h2
  rw [Nat.zero_mul, Nat.add_zero] at c2
  obtain ⟨A', hsl, hA'⟩ := run_tail b off n c h1 hnc
  have HR := Lib.hid (hA' _ _ _ hl)
  have HNE := numberExceeds_any w.drew B (x - 1) A' (n - 1) (c - 1) (l.drop 1) hB HR.out (by omega)
  have HN := Lib.hid HNE
  have hi0 : 0 < n := by omega
  clear hc c1 hl hA' hx hok HNE
  go_enter Tryd.func56, Tryd.ntmps56
  go_wp2_with fail
  refine region_tail 7 (by kernel_rfl) (by kernel_rfl) ?_
  simp only [List.take_succ_cons, List.take_zero, List.drop_succ_cons, List.drop_zero]
  repeat still_step
  refine wpStill_nil ?_
  go_wp2_with fail
  refine (HN.out).mono ?_
  rintro e w3 ⟨rfl, hb3⟩
  have HB3 := Lib.hid ((Below.refl w.heap.size w).drew.trans hb3)
  go_wp2
  go_ret
  exact ⟨by rw [List.drop_one]; rfl, HB3.out⟩

set_option maxRecDepth 100000 in
set_option maxHeartbeats 1600000 in
theorem implResidOk_any (w : World) (B : Nat) (A : Option Addr) (n c : Nat) (l : List (Int × Int)) (s : Int) (hB : B ≤ w.heap.size) (hl : TokR w B A n l) (hn : (n : Int) ≤ 140737488355328) (hnc : n ≤ c) :
    Calls Tryd.prog 22 #[.slice A n c, .int .i64 s] w fun e w' => e = .returned (.bool (Nm.residOk s l)) ∧ Below w.heap.size w w' := by
  cases hs : Sg.isSign s with
  | false =>
    have HF : Hid (Nm.residOk s l = false) := Nm.residOk_no (fun h => by rw [h.1] at hs; cases hs)
    clear hl
    go_enter Tryd.func22, Tryd.ntmps22
    go_wp2_with fail
    refine (signOk_any w s).mono ?_
    rintro e w' ⟨rfl, rfl⟩
    rw [hs]
    go_wp2
    go_ret
    exact ⟨by rw [HF.out]; rfl, Below.refl _ _⟩
  | true =>
  by_cases h0 : n = 0
  · subst h0
    have HF : Hid (Nm.residOk s l = false) := Nm.residOk_no (fun h => by have h1 := h.2.1; rw [hl.1] at h1; omega)
    clear hl
    go_enter Tryd.func22, Tryd.ntmps22
    go_wp2_with fail
    refine (signOk_any w s).mono ?_
    rintro e w' ⟨rfl, rfl⟩
    rw [hs]
    go_wp2
    go_ret
    exact ⟨by rw [HF.out]; rfl, Below.refl _ _⟩
  · have h1 : 1 ≤ n := by omega
    have d0 : ((n : Int) == 0) = false := by simp; omega
    cases hall : Nm.allOk l with
    | false =>
      have HF : Hid (Nm.residOk s l = false) := Nm.residOk_no (fun h => by rw [(Nm.allOk_iff l).2 h.2.2.1] at hall; cases hall)
      have HA := Lib.hid hall
      clear hall
      go_enter Tryd.func22, Tryd.ntmps22
      go_wp2_with fail
      refine (signOk_any w s).mono ?_
      rintro e w' ⟨rfl, rfl⟩
      rw [hs]
      go_wp2_with fail
      refine (atomsOk_any _ B A n c l hB hl hn).mono ?_
      rintro e w1 ⟨rfl, hb1⟩
      rw [HA.out]
      go_wp2
      go_ret
      exact ⟨by rw [HF.out]; rfl, hb1⟩
    | true =>
      have HA := Lib.hid hall
      have HP := Lib.hid ((Nm.allOk_iff l).1 hall)
      clear hall
      cases hinc : Nm.incr l with
      | false =>
        have HF : Hid (Nm.residOk s l = false) := Nm.residOk_no (fun h => by rw [(Nm.incr_iff l).2 h.2.2.2.1] at hinc; cases hinc)
        have HI := Lib.hid hinc
        clear hinc
        go_enter Tryd.func22, Tryd.ntmps22
        go_wp2_with fail
        refine (signOk_any w s).mono ?_
        rintro e w' ⟨rfl, rfl⟩
        rw [hs]
        go_wp2_with fail
        refine (atomsOk_any _ B A n c l hB hl hn).mono ?_
        rintro e w1 ⟨rfl, hb1⟩
        rw [HA.out]
        go_wp2_with fail
        refine (paramsIncrease_any w1 B A n c l (Nat.le_trans hB hb1.size) (hl.below (hb1.mono hB)) hn h1).mono ?_
        rintro e w2 ⟨rfl, hb2⟩
        rw [HI.out]
        have HB := Lib.hid (hb1.trans (hb2.mono hb1.size))
        go_wp2
        go_ret
        exact ⟨by rw [HF.out]; rfl, HB.out⟩
      | true =>
        have HI := Lib.hid hinc
        have HQ := Lib.hid ((Nm.incr_iff l).1 hinc)
        have HS := Lib.hid hs
        clear hinc
        obtain ⟨b, off, rfl, hb, hc⟩ := hl.2 (by omega)
        have HC := Lib.hid hc
        have HL := Lib.hid hl.1
        have HR := Lib.hid hl
        clear hc
        go_enter Tryd.func22, Tryd.ntmps22
        go_wp2_with fail
        refine (signOk_any w s).mono ?_
        rintro e w' ⟨rfl, rfl⟩
        rw [hs]
        clear hs
        go_wp2_with fail
        refine (atomsOk_any _ B _ n c l hB hl hn).mono ?_
        rintro e w1 ⟨rfl, hb1⟩
        rw [HA.out]
        go_wp2_with fail
        refine (paramsIncrease_any w1 B _ n c l (Nat.le_trans hB hb1.size) (hl.below (hb1.mono hB)) hn h1).mono ?_
        rintro e w2 ⟨rfl, hb2⟩
        rw [HI.out]
        have HBL := Lib.hid (hb1.trans (hb2.mono hb1.size))
        clear hl hb1 hb2
        go_wp2
        go_loopw [27] (fun i wr => ∃ k : Nat, k ≤ n ∧ i = .int .i64 k ∧ Hid (∀ j, j < k → (l.getD j (0, 0)).1 = -1 ∨ Sg.has s (l.getD j (0, 0)).1 = true) ∧ Below w'.heap.size w' wr) (fun i _ => n - (intOf i).toNat)
        case atStart => exact ⟨0, Nat.zero_le _, rfl, (fun j hj => absurd hj (by omega)), HBL.out⟩
        case round =>
          obtain ⟨k, hk, rfl, HX, hbel⟩ := hrel
          by_cases hlt : k < n
          · obtain ⟨c1, c2⟩ := HC.out k hlt
            obtain ⟨t, ht⟩ : ∃ t, l.getD k (0, 0) = t := ⟨_, rfl⟩
            rw [ht] at c1 c2
            obtain ⟨p, x⟩ := t
            have HT := Lib.hid ht
            have k1 := (hbel.cell (p := ⟨b, off + k * 2, none⟩) (by show b < _; omega)).trans c1
            have k2 := (hbel.cell (p := ⟨b, off + k * 2 + 1, none⟩) (by show b < _; omega)).trans c2
            have HBA := Lib.hid (hbel.alloc hbel.size (.cells #[.int .i64 p, .int .i64 x] 68))
            clear c1 c2 ht
            have HX2 : Hid (p = -1 ∨ Sg.has s p = true → ∀ j, j < k + 1 → (l.getD j (0, 0)).1 = -1 ∨ Sg.has s (l.getD j (0, 0)).1 = true) := by
              intro hp j hj
              by_cases e : j = k
              · subst e; rw [HT.out]; exact hp
              · exact HX.out j (by omega)
            by_cases ep : p = -1
            · subst ep
              go_wp2
              go_roundw
              case rel => exact ⟨k + 1, by omega, by go_num, HX2.out (.inl rfl), HBA.out⟩
              case measure => simp [intOf]; omega
            · have dp : (p != -1) = true := by simpa using ep
              have HEP := Lib.hid ep
              clear ep
              cases hh : Sg.has s p with
              | true =>
                have HX3 := Lib.hid (HX2.out (.inr hh))
                go_wp2_with fail
                refine (implSignHas_any _ s p).mono ?_
                rintro e w4 ⟨rfl, rfl⟩
                rw [hh]
                go_wp2
                go_roundw
                case rel => exact ⟨k + 1, by omega, by go_num, HX3.out, HBA.out⟩
                case measure => simp [intOf]; omega
              | false =>
                have HF : Hid (Nm.residOk s l = false) := Nm.residOk_no (fun h => by
                  have := h.2.2.2.2.1 k (by rw [HL.out]; exact hlt)
                  rw [HT.out] at this
                  rcases this with h | h
                  · exact HEP.out h
                  · rw [hh] at h; cases h)
                go_wp2_with fail
                refine (implSignHas_any _ s p).mono ?_
                rintro e w4 ⟨rfl, rfl⟩
                rw [hh]
                go_wp2
                go_ret
                exact ⟨by rw [HF.out]; rfl, HBA.out⟩
          · obtain rfl : k = n := by omega
            obtain ⟨t, ht⟩ : ∃ t, l.getD 0 (0, 0) = t := ⟨_, rfl⟩
            obtain ⟨c1, c2⟩ := HC.out 0 (by omega)
            rw [ht] at c1 c2
            obtain ⟨p, x⟩ := t
            have HT := Lib.hid ht
            rw [Nat.zero_mul, Nat.add_zero] at c1
            have k1 := (hbel.cell (p := ⟨b, off, none⟩) (by show b < _; omega)).trans c1
            clear c1 c2 ht
            have hi0 : 0 < k := by omega
            by_cases ep : p = -1
            · subst ep
              have HNN := Lib.hid (numberIsNeeded_any wr B b off k c l (Nat.le_trans hB hbel.size) (HR.out.below (hbel.mono hB)) hn h1 hnc HP.out)
              go_wp2_with fail
              refine HNN.out.mono ?_
              rintro e w3 ⟨rfl, hb3⟩
              have HB3 := Lib.hid (hbel.trans (hb3.mono hbel.size))
              have HF : Hid (Nm.residOk s l = Nm.exceeds ((l.getD 0 (0, 0)).2 - 1) (l.drop 1)) := by
                show _ = _
                rw [Bool.eq_iff_iff, Nm.residOk_iff, Nm.exceeds_iff]
                constructor
                · intro h
                  exact h.2.2.2.2.2 (by rw [HT.out])
                · intro h
                  exact ⟨HS.out, by rw [HL.out]; exact h1, HP.out, HQ.out, by rw [HL.out]; exact HX.out, fun _ => h⟩
              obtain ⟨r, hr⟩ : ∃ r, Nm.residOk s l = r := ⟨_, rfl⟩
              rw [← HF.out, hr]
              have HRR := Lib.hid hr
              clear hr
              go_wp2
              go_ret
              exact ⟨by rw [HRR.out]; rfl, HB3.out⟩
            · have HF : Hid (Nm.residOk s l = true) := (Nm.residOk_iff s l).2 ⟨HS.out, by rw [HL.out]; exact h1, HP.out, HQ.out, by rw [HL.out]; exact HX.out, fun h => absurd (by rw [HT.out] at h; exact h) ep⟩
              have dp : (p != -1) = true := by simpa using ep
              clear ep
              go_wp2
              go_ret
              exact ⟨by rw [HF.out]; rfl, hbel⟩
end Go.Proofs.YtijiohdddfdjfaaDoor

namespace Go.Proofs.YtijiohdddfdjfaaDoor
open Go.RowKit

theorem info_atoms : (Tryd.prog.info? 34).map (fun i => (i.zero, i.size, i.bytes)) = some (some (.slice none 0 0), 1, 24) := by kernel_rfl
/-- a pile of rows of atoms, its top first, each row of its own -/
def PileD (w : World) (base g D c : Nat) (cs : List (List (Int × Int))) : Prop :=
  cs.length = D ∧ ∃ vals : List Value, w.ownsRow base 34 1 (.slice (some ⟨g, 0, none⟩) D c) D vals ∧
    ∀ (i : Nat) (a : List (Int × Int)), cs.reverse[i]? = some a → ∃ ga ca, vals[i]? = some (Value.slice (some ⟨ga, 0, none⟩) a.length ca) ∧ OwnA w base (some ⟨ga, 0, none⟩) a.length ca a
theorem PileD.below {w w' : World} {base g D c : Nat} {cs : List (List (Int × Int))} (h : PileD w base g D c cs) (hb : Below w.heap.size w w') : PileD w' base g D c cs := by
  obtain ⟨h1, vals, h2, h3⟩ := h
  refine ⟨h1, vals, own_below' h2 hb, fun i a ha => ?_⟩
  obtain ⟨ga, ca, q1, q2⟩ := h3 i a ha
  exact ⟨ga, ca, q1, own_below' q2 hb⟩
theorem PileD.alloc {w : World} {base g D c : Nat} {cs : List (List (Int × Int))} (h : PileD w base g D c cs) (o : Obj) : PileD (w.alloc o) base g D c cs :=
  h.below ((Below.refl _ _).alloc (Nat.le_refl _) o)
theorem PileD.drew {w : World} {base g D c : Nat} {cs : List (List (Int × Int))} (h : PileD w base g D c cs) : PileD w.drew base g D c cs := h
/-- the pile without its top ones -/
theorem PileD.drop {w : World} {base g D c : Nat} {cs : List (List (Int × Int))} (h : PileD w base g D c cs) (k : Nat) (hk : k ≤ D) : PileD w base g (D - k) c (cs.drop k) := by
  obtain ⟨h1, vals, h2, h3⟩ := h
  refine ⟨by rw [List.length_drop, h1], vals.take (D - k), own_take h2 (by omega), fun i a ha => ?_⟩
  rw [List.reverse_drop, h1] at ha
  have hi : i < D - k := by
    have := (List.getElem?_eq_some_iff.1 ha).1
    rw [List.length_take] at this
    omega
  rw [List.getElem?_take_of_lt hi] at ha
  obtain ⟨ga, ca, q1, q2⟩ := h3 i a ha
  exact ⟨ga, ca, by rw [List.getElem?_take_of_lt hi]; exact q1, q2⟩
/-- what an append gives -/
theorem PileD.push {w w' : World} {base g D c ga ca : Nat} {cs : List (List (Int × Int))} {a : List (Int × Int)} {v' : Value} {vals : List Value} (hD : cs.length = D)
    (h2 : w.ownsRow base 34 1 (.slice (some ⟨g, 0, none⟩) D c) D vals) (h3 : ∀ (i : Nat) (a : List (Int × Int)), cs.reverse[i]? = some a → ∃ ga ca, vals[i]? = some (Value.slice (some ⟨ga, 0, none⟩) a.length ca) ∧ OwnA w base (some ⟨ga, 0, none⟩) a.length ca a)
    (ho : OwnA w base (some ⟨ga, 0, none⟩) a.length ca a) (hg : w.grownBy w' (Value.slice (some ⟨g, 0, none⟩) D c).ownBlock)
    (hown : w'.ownsRow base 34 1 v' (D + 1) (vals ++ [Value.slice (some ⟨ga, 0, none⟩) a.length ca])) : ∃ g' c', v' = .slice (some ⟨g', 0, none⟩) (D + 1) c' ∧ PileD w' base g' (D + 1) c' (a :: cs) := by
  obtain ⟨g', c', rfl⟩ := own_form hown (by omega)
  refine ⟨g', c', rfl, by rw [List.length_cons, hD], _, hown, fun i x hx => ?_⟩
  have hvl : vals.length = D := by have := h2.1; omega
  have hk : ∀ {gx cx : Nat} {x : List (Int × Int)}, OwnA w base (some ⟨gx, 0, none⟩) x.length cx x → OwnA w' base (some ⟨gx, 0, none⟩) x.length cx x := fun h => h.kept hg (own_apartK h h2 (by decide))
  rw [List.reverse_cons] at hx
  by_cases hi : i < D
  · rw [List.getElem?_append_left (by rw [List.length_reverse, hD]; exact hi)] at hx
    obtain ⟨gx, cx, q1, q2⟩ := h3 i x hx
    exact ⟨gx, cx, by rw [List.getElem?_append_left (by omega)]; exact q1, hk q2⟩
  · have hiD : i = D := by
      have := (List.getElem?_eq_some_iff.1 hx).1
      simp at this
      omega
    subst hiD
    rw [List.getElem?_append_right (by rw [List.length_reverse, hD]; exact Nat.le_refl _), List.length_reverse, hD, Nat.sub_self] at hx
    obtain rfl : a = x := by simpa using hx
    exact ⟨ga, ca, by rw [List.getElem?_append_right (by omega), hvl, Nat.sub_self]; rfl, hk ho⟩
/-- the top one is put anew -/
theorem PileD.top {w : World} {base g d c ga ca : Nat} {s : List (List (Int × Int))} {a a' : List (Int × Int)} (h : PileD w base g (d + 1) c (a :: s)) (ho : OwnA w base (some ⟨ga, 0, none⟩) a'.length ca a') :
    PileD (w.setCell ⟨g, d, none⟩ (.slice (some ⟨ga, 0, none⟩) a'.length ca)) base g (d + 1) c (a' :: s) := by
  obtain ⟨h1, vals, h2, h3⟩ := h
  have hs : s.length = d := by simpa using h1
  have hvl : vals.length = d + 1 := by have := h2.1; omega
  have hk : ∀ {gx cx : Nat} {x : List (Int × Int)}, OwnA w base (some ⟨gx, 0, none⟩) x.length cx x → OwnA (w.setCell ⟨g, d, none⟩ (.slice (some ⟨ga, 0, none⟩) a'.length ca)) base (some ⟨gx, 0, none⟩) x.length cx x := fun h => h.kept (put_grown w g d _) (own_apartK h h2 (by decide))
  refine ⟨by simpa using hs, _, own_put h2 d _, fun i x hx => ?_⟩
  rw [List.reverse_cons] at hx
  by_cases hi : i < d
  · have hx2 : (a :: s).reverse[i]? = some x := by
      rw [List.reverse_cons, List.getElem?_append_left (by rw [List.length_reverse, hs]; exact hi)]
      rw [List.getElem?_append_left (by rw [List.length_reverse, hs]; exact hi)] at hx
      exact hx
    obtain ⟨gx, cx, q1, q2⟩ := h3 i x hx2
    exact ⟨gx, cx, by rw [List.getElem?_set_ne (by omega)]; exact q1, hk q2⟩
  · have hid : i = d := by
      have := (List.getElem?_eq_some_iff.1 hx).1
      simp at this
      omega
    subst hid
    rw [List.getElem?_append_right (by rw [List.length_reverse, hs]; exact Nat.le_refl _), List.length_reverse, hs, Nat.sub_self] at hx
    obtain rfl : a' = x := by simpa using hx
    exact ⟨ga, ca, by rw [List.getElem?_set_self (by omega)], hk ho⟩
/-- what lies at a place of the pile -/
theorem PileD.at {w : World} {base g D c i : Nat} {cs : List (List (Int × Int))} {a : List (Int × Int)} (h : PileD w base g D c cs) (ha : cs.reverse[i]? = some a) :
    ∃ ga ca, w.cell? ⟨g, i, none⟩ = some (.slice (some ⟨ga, 0, none⟩) a.length ca) ∧ OwnA w base (some ⟨ga, 0, none⟩) a.length ca a := by
  obtain ⟨h1, vals, h2, h3⟩ := h
  obtain ⟨ga, ca, q1, q2⟩ := h3 i a ha
  have hk := h2.cells (g := g) rfl i _ q1
  rw [own_adds] at hk
  exact ⟨ga, ca, hk, q2⟩
theorem norm_one {p : Int} (h0 : -1 ≤ p) (h5 : p < 5) : Nm.norm [(p, 0)] = [(p, 0)] := by
  apply Nm.norm_self
  refine ⟨by simp, ?_, ?_, ?_⟩
  · exact Nm.allOk_of_mem fun a ha => by
      obtain rfl : a = (p, 0) := by simpa using ha
      exact (Nm.atOk_iff _).2 (by simp; omega)
  · intro k hk hk2
    simp at hk2
    omega
  · intro _ k hk
    simp at hk
end Go.Proofs.YtijiohdddfdjfaaDoor

namespace Go.Proofs.YtijiohdddfdjfaaDoor
open Go.RowKit

/-- atoms and whether there are any -/
def ResO (w : World) (r : Option (List (Int × Int))) (e : Ending) (w' : World) : Prop :=
  ∃ A c, e = .returned (.tuple #[.slice A (r.getD []).length c, .bool r.isSome]) ∧ OwnO w' w.heap.size A (r.getD []).length c (tokCells (r.getD [])) ∧ Below w.heap.size w w'
theorem resO_none {w w' : World} (h : Below w.heap.size w w') : ResO w none (.returned (.tuple #[.slice none 0 0, .bool false])) w' :=
  ⟨none, 0, rfl, ⟨rfl, .inl ⟨rfl, rfl, rfl⟩⟩, h⟩
theorem own_litO {w : World} {g base : Nat} {a b : Int} (h : Blk w g 68 #[.int .i64 a, .int .i64 b]) (hb : base ≤ g) : OwnA w base (some ⟨g, 0, none⟩) 1 1 [(a, b)] :=
  ⟨rfl, .inr ⟨g, 1, #[.int .i64 a, .int .i64 b], rfl, hb, h, Nat.le_refl _, by simp [maxLen], rfl, rfl⟩⟩
theorem small_of {a : List (Int × Int)} (h : Nm.AllOk a) : Small a := by
  intro j hj
  have := (h.mem (Nm.mem_getD hj)).2.2
  omega
theorem rnorm_one {p : Int} (h0 : -1 ≤ p) (h5 : p < 5) : Nm.rnorm [(p, 0)] = [(p, 0)] := by
  rcases (show p = -1 ∨ p = 0 ∨ p = 1 ∨ p = 2 ∨ p = 3 ∨ p = 4 by omega) with rfl | rfl | rfl | rfl | rfl | rfl <;> decide
theorem residR_no {s : Int} {l : List (Int × Int)} (h : ¬ (Lv.levelOk l = true ∧ Sg.isSign s = true)) : Nm.residR s l = none := if_neg h
theorem residR_yes {s : Int} {l : List (Int × Int)} (h : Lv.levelOk l = true ∧ Sg.isSign s = true) : Nm.residR s l = some (Nm.rnorm (Nm.wl s l)) := if_pos h
theorem ok_lenO {l : List (Int × Int)} (h : Lv.levelOk l = true) : 1 ≤ l.length ∧ l.length ≤ 24 := by
  simp only [Lv.levelOk, Bool.and_eq_true, decide_eq_true_eq] at h
  exact h.1
theorem wlen_run {s : Int} {l : List (Int × Int)} {st : List (List (Int × Int))} (h : Nm.wrun s l [] = some st) : st.length ≤ l.length := by
  have h1 := Nm.wrun_height (s := s) (l := l) []
  rw [h] at h1
  have key : ∀ (l : List (Int × Int)) (n m : Int), Lv.hts l n = some m → m ≤ n + l.length := by
    intro l
    induction l with
    | nil => intro n m h; simp only [Lv.hts] at h; injection h with h; subst h; simp
    | cons t r ih =>
      intro n m h
      simp only [Lv.hts] at h
      split at h
      · have := ih _ _ h
        have := Lv.takes_bd t.1
        rw [List.length_cons]
        omega
      · cases h
  have := key l 0 st.length (by simpa using h1.symm)
  omega

set_option maxRecDepth 100000 in
set_option maxHeartbeats 6400000 in
theorem specResidual_any (w : World) (B : Nat) (A : Option Addr) (n c : Nat) (l : List (Int × Int)) (s : Int) (hB : B ≤ w.heap.size) (hl : TokR w B A n l) (hn : (n : Int) ≤ 140737488355328) :
    Calls Tryd.prog 19 #[.slice A n c, .int .i64 s] w (ResO w (Nm.residR s l)) := by
  obtain ⟨i0, hi, hz0, hz1, hz2⟩ := info_parts info_atom
  obtain ⟨j0, ji, jz0, jz1, jz2⟩ := info_parts info_atoms
  cases h1 : Lv.levelOk l with
  | false =>
    have HF : Hid (Nm.residR s l = none) := residR_no (fun h => by rw [h1] at h; cases h.1)
    have HO := Lib.hid h1
    clear h1
    go_enter Tryd.func19, Tryd.ntmps19
    go_wp2_with fail
    refine (specOk_any w B A n c l hB hl hn).mono ?_
    rintro e w1 ⟨rfl, hb1⟩
    rw [HO.out]
    go_wp2
    go_ret2
    rw [HF.out]
    exact resO_none hb1
  | true =>
  cases hs : Sg.isSign s with
  | false =>
    have HF : Hid (Nm.residR s l = none) := residR_no (fun h => by rw [hs] at h; cases h.2)
    have HO := Lib.hid h1
    clear h1
    go_enter Tryd.func19, Tryd.ntmps19
    go_wp2_with fail
    refine (specOk_any w B A n c l hB hl hn).mono ?_
    rintro e w1 ⟨rfl, hb1⟩
    rw [HO.out]
    go_wp2_with fail
    refine (l03Sign_any w1 s).mono ?_
    rintro e w' ⟨rfl, rfl⟩
    rw [hs]
    go_wp2
    go_ret2
    rw [HF.out]
    exact resO_none hb1
  | true =>
    have HO := Lib.hid h1
    have HF : Hid (Nm.residR s l = some (Nm.rnorm (Nm.wl s l))) := residR_yes ⟨h1, hs⟩
    have hn24 : n ≤ 24 := by rw [← hl.1]; exact (ok_lenO h1).2
    have hn1 : 1 ≤ n := by rw [← hl.1]; exact (ok_lenO h1).1
    clear h1
    go_enter Tryd.func19, Tryd.ntmps19
    go_wp2_with fail
    refine (specOk_any w B A n c l hB hl hn).mono ?_
    rintro e w1 ⟨rfl, hb1⟩
    rw [HO.out]
    go_wp2_with fail
    refine (l03Sign_any w1 s).mono ?_
    rintro e w' ⟨rfl, rfl⟩
    rw [hs]
    have HP0 : Hid (PileO (w'.alloc (.cells #[] 34)) w.heap.size w'.heap.size 0 0 []) := ⟨rfl, [], World.ownsRow_made w' #[] 0 hb1.size (by simp [maxLen]) (by simp), fun i a ha => by simp at ha⟩
    have HB1 := Lib.hid (hb1.alloc hb1.size (.cells #[] 34))
    clear hb1 hs
    go_wp2
    go_loopw [6, 7] (fun v i wr => ∃ (k : Nat) (st : List (List (Int × Int))) (g D c4 : Nat), k ≤ n ∧ i = .int .i64 k ∧ Hid (Nm.wrun s (l.take k) [] = some st) ∧ v = .slice (some ⟨g, 0, none⟩) D c4 ∧ Hid (PileO wr w.heap.size g D c4 (st.map Nm.rnorm)) ∧ Below w.heap.size w wr) (fun _ i _ => n - (intOf i).toNat)
    case atStart => exact ⟨0, [], w'.heap.size, 0, 0, Nat.zero_le _, rfl, Lib.hid rfl, rfl, HP0, HB1.out⟩
    case round =>
      obtain ⟨k, st, g, D, c4, hk, rfl, HR, rfl, HP, hbel⟩ := hrel
      have hszr := hbel.size
      have hDl : st.length = D := by have := HP.out.1; rw [List.length_map] at this; exact this
      have hdl := wlen_run HR.out
      rw [List.length_take] at hdl
      have hD24 : D ≤ 24 := by omega
      have hfine := Nm.wfine_take HR.out (by omega)
      by_cases hlt : k < n
      · obtain ⟨b, off, rfl, hb, hc⟩ := hl.2 (by omega)
        obtain ⟨x1, x2⟩ := hc k hlt
        have hkl : k < l.length := by rw [hl.1]; exact hlt
        obtain ⟨t, ht⟩ : ∃ t, l.getD k (0, 0) = t := ⟨_, rfl⟩
        have k1 := (hbel.cell (p := ⟨b, off + k * 2, none⟩) (by show b < _; omega)).trans x1
        have k2 := (hbel.cell (p := ⟨b, off + k * 2 + 1, none⟩) (by show b < _; omega)).trans x2
        rw [ht] at k1 k2
        have hki : (k : Int) < (n : Int) := by omega
        obtain ⟨st', hst'⟩ := Nm.wrun_some (s := s) HO.out (k + 1)
        have HR' := Lib.hid hst'
        have hps : Nm.wstep s (l.getD k (0, 0)) st = some st' := by
          have h := Nm.wrun_take_succ s l k hkl []
          rw [hst', HR.out] at h
          exact h.symm
        rw [ht] at hps
        have htk := Nm.wstep_ok hps
        obtain ⟨op, y⟩ := t
        have HL := Lib.hid hl
        have HBL := Lib.hid hbel
        clear x1 x2 hc ht hst' hl hdl hkl hbel
        rcases Lv.tk_cases htk with e | e | e | e | e
        · obtain rfl : op = 0 := e
          obtain rfl := Nm.wstep_zero hps
          obtain ⟨hD, vals, h2, h3⟩ := (HP.out.alloc (.cells #[.int .i64 (-1), .int .i64 0] 68)).alloc (.cells #[.slice (some ⟨wr.heap.size, 0, none⟩) 1 1] 34)
          have hel : OwnA ((wr.alloc (.cells #[.int .i64 (-1), .int .i64 0] 68)).alloc (.cells #[.slice (some ⟨wr.heap.size, 0, none⟩) 1 1] 34)) w.heap.size (some ⟨wr.heap.size, 0, none⟩) 1 1 [(-1, 0)] := own_litO ((Blk.made wr _ _).alloc _) hszr
          have hba := (HBL.out.alloc hszr (.cells #[.int .i64 (-1), .int .i64 0] 68)).alloc (by simp; omega) (.cells #[.slice (some ⟨wr.heap.size, 0, none⟩) 1 1] 34)
          have HN1 := Lib.hid (rnorm_one (p := -1) (by omega) (by omega))
          clear hps htk hfine
          go_wp2_with (at_builtin; refine wpList_append_own _ rfl (.tmp 82) (.tmp 85) 64 rfl w.heap.size 34 j0 (.slice none 0 0) 1 24 Tryd.underlying64 ji jz0 jz1 jz2 rfl (by decide) (.slice (some ⟨g, 0, none⟩) D c4) D vals rfl h2 ⟨wr.heap.size + 1, 0, none⟩ 1 1 [.slice (some ⟨wr.heap.size, 0, none⟩) 1 1] rfl rfl (news_one _ _ _ _) (fun u hu => by simp at hu; subst hu; rfl) (by unfold maxLen; omega) (by omega) (by simp; omega) ?_
                       intro v' w3 hown' hgrow hnil
                       obtain ⟨g', c', rfl, hp3⟩ := PileO.push (a := [(-1, 0)]) hD h2 h3 (OwnO.of hel) hgrow hown'
                       have HP3 := Lib.hid hp3
                       have HB3 : Hid (Below w.heap.size w w3) := hba.grown hgrow (by simp; omega) (fun k h => (h2.lt k h).1)
                       clear hown' hgrow hnil hp3 h2 h3 hel hba)
          go_wp2
          go_roundw
          case rel => exact ⟨k + 1, [(-1, 0)] :: st, g', D + 1, c', by omega, by go_num, HR', rfl, Lib.hid (by rw [List.map_cons, HN1.out]; exact HP3.out), HB3.out⟩
          case measure => simp [intOf]; omega
        · obtain rfl : op = 1 := e
          obtain ⟨a, r, rfl, rfl⟩ := Nm.wstep_succ hps
          obtain ⟨d, rfl⟩ : ∃ d, D = d + 1 := ⟨r.length, by rw [← hDl]; rfl⟩
          have hsd : r.length = d := by simpa using hDl
          have hfa := hfine a (by simp)
          have hoka := hfine.allOk (by omega) (a := a) (by simp)
          have hokr := Nm.rnorm_allOk hoka
          have hoku : Nm.AllOk (Nm.up 1 (Nm.rnorm a)) := hokr.up (fun x hx => by have := hfa.2.2 x (Nm.rnorm_sub hx); omega)
          have HRU : Hid (Nm.resid s (Nm.up 1 (Nm.rnorm a)) = Nm.rnorm (Nm.up 1 a)) := by
            unfold Hid Nm.resid
            rw [Nm.pl_self ((hfa.2.1.rnorm).up 1), Nm.rnorm_up hoka hokr]
          have HSM := Lib.hid (small_of hokr)
          have HOKU := Lib.hid hoku
          have hl6 := Nm.rnorm_len a
          have hl1 : 1 ≤ (Nm.rnorm a).length := List.length_pos_iff.2 (Nm.rnorm_ne hfa.1 hoka)
          obtain ⟨Aa, ca, q1, q2⟩ := HP.out.at (i := d) (a := Nm.rnorm a) (by rw [List.map_cons, List.reverse_cons, List.getElem?_append_right (by simp [hsd]), List.length_reverse, List.length_map, hsd, Nat.sub_self]; rfl)
          obtain ⟨La, hLa⟩ : ∃ La, (Nm.rnorm a).length = La := ⟨_, rfl⟩
          rw [hLa] at q1 q2 hl6 hl1
          have hlu6 := Nm.rnorm_len (Nm.up 1 a)
          obtain ⟨Lu, hLu⟩ : ∃ Lu, (Nm.rnorm (Nm.up 1 a)).length = Lu := ⟨_, rfl⟩
          have HLU := Lib.hid hLu
          have HQ2 := Lib.hid q2
          clear hps htk hfine hfa hoka q2 hLa hokr hoku hLu
          go_wp2_with fail
          refine (specUp_any wr wr.heap.size _ La ca (Nm.rnorm a) 1 (Nat.le_refl _) (at_reads HQ2.out) (by omega) HSM.out (by omega) (by omega)).mono ?_
          rintro e w2 ⟨gu, cu, rfl, hou, hb2⟩
          have hs2 := hb2.size
          have HLUP := Lib.hid (l03Resid_any w2 w2.heap.size (some ⟨gu, 0, none⟩) La cu (Nm.up 1 (Nm.rnorm a)) s (Nat.le_refl _) (OwnA.reads hou) (by omega) (by omega) HOKU.out)
          have HB2 := Lib.hid hb2
          clear hou hb2
          go_wp2_with fail
          refine HLUP.out.mono ?_
          rintro e w3 ⟨Au, cv, rfl, hov, hb3⟩
          rw [HRU.out, HLU.out] at hov
          rw [HRU.out, HLU.out]
          have hb23 := HB2.out.trans (hb3.mono hs2)
          have hp3 := HP.out.below hb23
          have hgd := (hp3.2).elim (fun vals h => (h.1.lt g rfl))
          have HPT := Lib.hid (PileO.top hp3 (a' := Nm.rnorm (Nm.up 1 a)) (A := Au) (ca := cv) (by rw [HLU.out]; exact at_base hov (Nat.le_trans hszr hs2)))
          have hb03 := HBL.out.trans (hb23.mono hszr)
          have HB3 := Lib.hid (hb03.setCell (p := ⟨g, d, none⟩) hgd.1 (.slice Au Lu cv))
          have k3 := (hb23.cell (p := ⟨g, d, none⟩) (World.block_lt_of_cell? wr _ q1)).trans q1
          have f3 : w3.frozen? ⟨g, d, none⟩ = false := by
            obtain ⟨_, vals, h, _⟩ := hp3
            obtain ⟨cs, hblk⟩ := own_blk h g rfl
            exact hblk.thawed d
          rw [HLU.out] at HPT
          clear hb3 hov hp3 hgd hb03 q1 HB2 hb23 HLUP
          go_wp2
          go_roundw
          case rel => exact ⟨k + 1, Nm.up 1 a :: r, g, d + 1, c4, by omega, by go_num, HR', rfl, HPT, HB3.out⟩
          case measure => simp [intOf]; omega
        · obtain rfl : op = 2 := e
          obtain ⟨a, b2, r, rfl, rfl⟩ := Nm.wstep_two hps (by omega)
          obtain ⟨d, rfl⟩ : ∃ d, D = d + 2 := ⟨r.length, by rw [← hDl]; rfl⟩
          have hsd : r.length = d := by simpa using hDl
          have hfa := hfine a (by simp)
          have hfb := hfine b2 (by simp)
          have hoka := hfine.allOk (by omega) (a := a) (by simp)
          have hokb := hfine.allOk (by omega) (a := b2) (by simp)
          have hokab : Nm.AllOk (Nm.rnorm a ++ Nm.rnorm b2) := (Nm.rnorm_allOk hoka).append (Nm.rnorm_allOk hokb)
          have HJ : Hid (Nm.resid s (Nm.rnorm a ++ Nm.rnorm b2) = Nm.rnorm (a ++ b2)) := by
            unfold Hid Nm.resid
            rw [Nm.pl_self ((hfa.2.1.rnorm).append (hfb.2.1.rnorm)), Nm.rnorm_join hoka hokb]
          have HOKAB := Lib.hid hokab
          have HZ := Lib.hid (Nm.rnorm_zero hfb.1 hokb)
          have ha1 : 1 ≤ (Nm.rnorm a).length := List.length_pos_iff.2 (Nm.rnorm_ne hfa.1 hoka)
          have hb1' : 1 ≤ (Nm.rnorm b2).length := List.length_pos_iff.2 (Nm.rnorm_ne hfb.1 hokb)
          have ha6 := Nm.rnorm_len a
          have hb6 := Nm.rnorm_len b2
          have hm6 := Nm.rnorm_len (a ++ b2)
          obtain ⟨Aa, ca, qa1, qa2⟩ := HP.out.at (i := d) (a := Nm.rnorm a) (by rw [List.map_cons, List.map_cons, List.reverse_cons, List.reverse_cons, List.append_assoc, List.getElem?_append_right (by simp [hsd]), List.length_reverse, List.length_map, hsd, Nat.sub_self]; rfl)
          obtain ⟨Ab, cb, qb1, qb2⟩ := HP.out.at (i := d + 1) (a := Nm.rnorm b2) (by rw [List.map_cons, List.map_cons, List.reverse_cons, List.getElem?_append_right (by simp [hsd]), List.length_reverse, List.length_cons, List.length_map, hsd, Nat.sub_self]; rfl)
          obtain ⟨La, hLa⟩ : ∃ La, (Nm.rnorm a).length = La := ⟨_, rfl⟩
          obtain ⟨Lb, hLb⟩ : ∃ Lb, (Nm.rnorm b2).length = Lb := ⟨_, rfl⟩
          obtain ⟨Lm, hLm⟩ : ∃ Lm, (Nm.rnorm (a ++ b2)).length = Lm := ⟨_, rfl⟩
          rw [hLa] at qa1 qa2 ha6 ha1
          rw [hLb] at qb1 qb2 hb6 hb1'
          rw [hLm] at hm6
          have HLM := Lib.hid hLm
          have HLB := Lib.hid hLb
          have HOA := Lib.hid qa2
          have HOB := Lib.hid qb2
          obtain ⟨gb, ob, eb, hbb, hcb⟩ := (at_reads qb2).2 (by omega)
          subst eb
          obtain ⟨z1, z2⟩ := hcb 0 (by omega)
          rw [Nat.zero_mul, Nat.add_zero] at z1 z2
          obtain ⟨u, hu⟩ : ∃ u, (Nm.rnorm b2).getD 0 (0, 0) = u := ⟨_, rfl⟩
          rw [hu] at z1 z2
          obtain ⟨zp, zx⟩ := u
          simp only at z1 z2
          have HUU := Lib.hid hu
          have hcap := HP.out.cap
          have hw2 : IntKind.i64.wrap ((d : Int) + 2 - 2) = (d : Int) := by rw [IntKind.wrap_i64]; omega
          have hw1 : IntKind.i64.wrap ((d : Int) + 2 - 1) = (d : Int) + 1 := by rw [IntKind.wrap_i64]; omega
          have n1 : (0 : Int) ≤ (d : Int) := by omega
          have n3 : (0 : Int) ≤ (d : Int) + 1 := by omega
          have n4 : (d : Int) < (d : Int) + 2 := by omega
          have n5 : (d : Int) + 1 < (d : Int) + 2 := by omega
          have n6 : ((d : Int) + 1).toNat = d + 1 := by omega
          clear hps htk hfine hfa hfb hoka hokb qa2 qb2 hLa hLb hLm hDl hokab hcb hu
          have hne3 : ¬ ((2 : Int) = 3 ∧ Nm.zeroL b2 = true) := fun h => by omega
          have HNE := Lib.hid hne3
          clear hne3
          by_cases hL1 : Lb = 1
          · subst hL1
            by_cases hq1 : zp = -1
            · subst hq1
              by_cases hq2 : zx = 0
              · subst hq2
                obtain ⟨qa, rfl, hqa⟩ := (at_reads HOA.out).tokA (by omega)
                have hcla : (tokCells (Nm.rnorm a)).length = La * 2 := HOA.out.1
                have hclb : (tokCells (Nm.rnorm b2)).length = 1 * 2 := HOB.out.1
                have ho0 : OwnA (wr.alloc (.cells #[] 68)) wr.heap.size (some ⟨wr.heap.size, 0, none⟩) 0 0 [] := World.ownsRow_made wr #[] 0 (Nat.le_refl _) (by simp [maxLen]) (by simp)
                have hb0 : Below wr.heap.size wr (wr.alloc (.cells #[] 68)).drew := ((Below.refl _ _).alloc (Nat.le_refl _) _).drew
                go_wp2_with fail
                go_region
                go_wp2_with (at_builtin; first
                  | (refine wpList_append_own _ rfl (.tmp 66) (.tmp 67) 34 rfl wr.heap.size 68 i0 (.agg #[.int .i64 0, .int .i64 0]) 2 16 Tryd.underlying34 hi hz0 hz1 hz2 rfl (by decide) (.slice (some ⟨wr.heap.size, 0, none⟩) 0 0) 0 (tokCells []) rfl ho0 qa La ca (tokCells (Nm.rnorm a)) rfl hcla (fun j u hu => ((at_reads (at_below' HOA.out hb0)).tokA (by omega)).elim fun q h => by obtain ⟨e, h⟩ := h; injection e with e; subst e; exact h.2 j u hu) (tokCells_one _) (by unfold maxLen; omega) (by omega) (by simp) ?_
                     intro v1 w1' hown1 hgrow1 hnil1
                     rw [tokCells_nil, List.nil_append, Nat.zero_add] at hown1
                     obtain ⟨g1, d1, rfl⟩ := own_form hown1 (by omega)
                     have hB1 : Below wr.heap.size wr w1' := hb0.grown hgrow1 (by simp) (fun k h => by have h' : wr.heap.size = k := (by simpa [Value.ownBlock] using h); omega)
                     have hsz1 := hB1.size)
                  | (refine wpList_append_own _ rfl (.tmp 68) (.tmp 69) 34 rfl wr.heap.size 68 i0 (.agg #[.int .i64 0, .int .i64 0]) 2 16 Tryd.underlying34 hi hz0 hz1 hz2 rfl (by decide) (.slice (some ⟨g1, 0, none⟩) La d1) La (tokCells (Nm.rnorm a)) rfl hown1 ⟨gb, ob, none⟩ 1 cb (tokCells (Nm.rnorm b2)) rfl hclb (fun j u hu => ((at_reads (at_below' HOB.out hB1)).tokA (by omega)).elim fun q h => by obtain ⟨e, h⟩ := h; injection e with e; subst e; exact h.2 j u hu) (tokCells_one _) (by unfold maxLen; omega) (by omega) (by omega) ?_
                     intro v2 w2' hown2 hgrow2 hnil2
                     obtain ⟨g2, d2, rfl⟩ := own_form hown2 (by omega)
                     have hB2 : Below wr.heap.size wr w2' := hB1.grown hgrow2 hsz1 (fun k h => (hown1.lt k h).1)
                     have ho2 : OwnA w2' wr.heap.size (some ⟨g2, 0, none⟩) (La + 1) d2 (Nm.rnorm a ++ Nm.rnorm b2) := by
                       unfold OwnA
                       rw [tokCells_append]
                       exact hown2
                     have hsz2 := hB2.size
                     have HLR := Lib.hid (l03Resid_any w2' w2'.heap.size (some ⟨g2, 0, none⟩) (La + 1) d2 (Nm.rnorm a ++ Nm.rnorm b2) s (Nat.le_refl _) (OwnA.reads ho2) (by omega) (by omega) HOKAB.out)
                     have HB2 := Lib.hid hB2
                     clear hown1 hgrow1 hnil1 hB1 hown2 hgrow2 hnil2 hB2 ho2 ho0 hb0))
                refine HLR.out.mono ?_
                rintro e wq ⟨Am, cm, rfl, hom, hbq⟩
                rw [HJ.out, HLM.out] at hom
                rw [HJ.out, HLM.out]
                have HBQ := Lib.hid (HB2.out.trans (hbq.mono hsz2))
                have hsq : wr.heap.size ≤ wq.heap.size := HBQ.out.size
                have HOM := Lib.hid (at_base hom (Nat.le_trans hszr hsz2))
                clear hom hbq HLR HB2
                have hpd := ((HP.out.below HBQ.out).alloc (.cells #[.slice Am Lm cm] 34)).drop 2 (by omega)
                obtain ⟨hD4, vals4, h24, h34⟩ := hpd
                have hba := (HBL.out.trans (HBQ.out.mono hszr)).alloc (Nat.le_trans hszr hsq) (.cells #[.slice Am Lm cm] 34)
                simp only [Nat.add_sub_cancel] at h24 hD4 h34
                clear HBQ
                go_wp2_with (at_builtin; refine wpList_append_own _ rfl (.tmp 76) (.tmp 78) 64 rfl w.heap.size 34 j0 (.slice none 0 0) 1 24 Tryd.underlying64 ji jz0 jz1 jz2 rfl (by decide) (.slice (some ⟨g, 0, none⟩) d c4) d vals4 rfl h24 ⟨wq.heap.size, 0, none⟩ 1 1 [.slice Am Lm cm] rfl rfl (cell_one_new _ _ _) (fun u hu => by simp at hu; subst hu; rfl) (by unfold maxLen; omega) (by omega) (by simp; omega) ?_
                             intro v' w3 hown' hgrow hnil
                             obtain ⟨g', c', rfl, hp3⟩ := PileO.push (a := Nm.rnorm (a ++ b2)) (A := Am) (ca := cm) hD4 h24 h34 (by rw [HLM.out]; exact at_below' HOM.out ((Below.refl _ _).alloc (Nat.le_refl _) _)) hgrow (by rw [HLM.out]; exact hown')
                             have HP3 := Lib.hid hp3
                             have HB3 : Hid (Below w.heap.size w w3) := hba.grown hgrow (by simp; omega) (fun k h => (h24.lt k h).1)
                             clear hown' hgrow hnil hp3 h24 h34 hba)
                go_wp2
                go_roundw
                case rel => exact ⟨k + 1, _, g', d + 1, c', by omega, by go_num, HR', rfl, Lib.hid (by rw [List.map_cons, if_neg HNE.out]; simpa using HP3.out), HB3.out⟩
                case measure => simp [intOf]; omega
              · have dz : (zx == 0) = false := by simpa using hq2
                obtain ⟨qa, rfl, hqa⟩ := (at_reads HOA.out).tokA (by omega)
                have hcla : (tokCells (Nm.rnorm a)).length = La * 2 := HOA.out.1
                have hclb : (tokCells (Nm.rnorm b2)).length = 1 * 2 := HOB.out.1
                have ho0 : OwnA (wr.alloc (.cells #[] 68)) wr.heap.size (some ⟨wr.heap.size, 0, none⟩) 0 0 [] := World.ownsRow_made wr #[] 0 (Nat.le_refl _) (by simp [maxLen]) (by simp)
                have hb0 : Below wr.heap.size wr (wr.alloc (.cells #[] 68)).drew := ((Below.refl _ _).alloc (Nat.le_refl _) _).drew
                go_wp2_with fail
                go_region
                go_wp2_with (at_builtin; first
                  | (refine wpList_append_own _ rfl (.tmp 66) (.tmp 67) 34 rfl wr.heap.size 68 i0 (.agg #[.int .i64 0, .int .i64 0]) 2 16 Tryd.underlying34 hi hz0 hz1 hz2 rfl (by decide) (.slice (some ⟨wr.heap.size, 0, none⟩) 0 0) 0 (tokCells []) rfl ho0 qa La ca (tokCells (Nm.rnorm a)) rfl hcla (fun j u hu => ((at_reads (at_below' HOA.out hb0)).tokA (by omega)).elim fun q h => by obtain ⟨e, h⟩ := h; injection e with e; subst e; exact h.2 j u hu) (tokCells_one _) (by unfold maxLen; omega) (by omega) (by simp) ?_
                     intro v1 w1' hown1 hgrow1 hnil1
                     rw [tokCells_nil, List.nil_append, Nat.zero_add] at hown1
                     obtain ⟨g1, d1, rfl⟩ := own_form hown1 (by omega)
                     have hB1 : Below wr.heap.size wr w1' := hb0.grown hgrow1 (by simp) (fun k h => by have h' : wr.heap.size = k := (by simpa [Value.ownBlock] using h); omega)
                     have hsz1 := hB1.size)
                  | (refine wpList_append_own _ rfl (.tmp 68) (.tmp 69) 34 rfl wr.heap.size 68 i0 (.agg #[.int .i64 0, .int .i64 0]) 2 16 Tryd.underlying34 hi hz0 hz1 hz2 rfl (by decide) (.slice (some ⟨g1, 0, none⟩) La d1) La (tokCells (Nm.rnorm a)) rfl hown1 ⟨gb, ob, none⟩ 1 cb (tokCells (Nm.rnorm b2)) rfl hclb (fun j u hu => ((at_reads (at_below' HOB.out hB1)).tokA (by omega)).elim fun q h => by obtain ⟨e, h⟩ := h; injection e with e; subst e; exact h.2 j u hu) (tokCells_one _) (by unfold maxLen; omega) (by omega) (by omega) ?_
                     intro v2 w2' hown2 hgrow2 hnil2
                     obtain ⟨g2, d2, rfl⟩ := own_form hown2 (by omega)
                     have hB2 : Below wr.heap.size wr w2' := hB1.grown hgrow2 hsz1 (fun k h => (hown1.lt k h).1)
                     have ho2 : OwnA w2' wr.heap.size (some ⟨g2, 0, none⟩) (La + 1) d2 (Nm.rnorm a ++ Nm.rnorm b2) := by
                       unfold OwnA
                       rw [tokCells_append]
                       exact hown2
                     have hsz2 := hB2.size
                     have HLR := Lib.hid (l03Resid_any w2' w2'.heap.size (some ⟨g2, 0, none⟩) (La + 1) d2 (Nm.rnorm a ++ Nm.rnorm b2) s (Nat.le_refl _) (OwnA.reads ho2) (by omega) (by omega) HOKAB.out)
                     have HB2 := Lib.hid hB2
                     clear hown1 hgrow1 hnil1 hB1 hown2 hgrow2 hnil2 hB2 ho2 ho0 hb0))
                refine HLR.out.mono ?_
                rintro e wq ⟨Am, cm, rfl, hom, hbq⟩
                rw [HJ.out, HLM.out] at hom
                rw [HJ.out, HLM.out]
                have HBQ := Lib.hid (HB2.out.trans (hbq.mono hsz2))
                have hsq : wr.heap.size ≤ wq.heap.size := HBQ.out.size
                have HOM := Lib.hid (at_base hom (Nat.le_trans hszr hsz2))
                clear hom hbq HLR HB2
                have hpd := ((HP.out.below HBQ.out).alloc (.cells #[.slice Am Lm cm] 34)).drop 2 (by omega)
                obtain ⟨hD4, vals4, h24, h34⟩ := hpd
                have hba := (HBL.out.trans (HBQ.out.mono hszr)).alloc (Nat.le_trans hszr hsq) (.cells #[.slice Am Lm cm] 34)
                simp only [Nat.add_sub_cancel] at h24 hD4 h34
                clear HBQ
                go_wp2_with (at_builtin; refine wpList_append_own _ rfl (.tmp 76) (.tmp 78) 64 rfl w.heap.size 34 j0 (.slice none 0 0) 1 24 Tryd.underlying64 ji jz0 jz1 jz2 rfl (by decide) (.slice (some ⟨g, 0, none⟩) d c4) d vals4 rfl h24 ⟨wq.heap.size, 0, none⟩ 1 1 [.slice Am Lm cm] rfl rfl (cell_one_new _ _ _) (fun u hu => by simp at hu; subst hu; rfl) (by unfold maxLen; omega) (by omega) (by simp; omega) ?_
                             intro v' w3 hown' hgrow hnil
                             obtain ⟨g', c', rfl, hp3⟩ := PileO.push (a := Nm.rnorm (a ++ b2)) (A := Am) (ca := cm) hD4 h24 h34 (by rw [HLM.out]; exact at_below' HOM.out ((Below.refl _ _).alloc (Nat.le_refl _) _)) hgrow (by rw [HLM.out]; exact hown')
                             have HP3 := Lib.hid hp3
                             have HB3 : Hid (Below w.heap.size w w3) := hba.grown hgrow (by simp; omega) (fun k h => (h24.lt k h).1)
                             clear hown' hgrow hnil hp3 h24 h34 hba)
                go_wp2
                go_roundw
                case rel => exact ⟨k + 1, _, g', d + 1, c', by omega, by go_num, HR', rfl, Lib.hid (by rw [List.map_cons, if_neg HNE.out]; simpa using HP3.out), HB3.out⟩
                case measure => simp [intOf]; omega
            · have dz : (zp == -1) = false := by simpa using hq1
              obtain ⟨qa, rfl, hqa⟩ := (at_reads HOA.out).tokA (by omega)
              have hcla : (tokCells (Nm.rnorm a)).length = La * 2 := HOA.out.1
              have hclb : (tokCells (Nm.rnorm b2)).length = 1 * 2 := HOB.out.1
              have ho0 : OwnA (wr.alloc (.cells #[] 68)) wr.heap.size (some ⟨wr.heap.size, 0, none⟩) 0 0 [] := World.ownsRow_made wr #[] 0 (Nat.le_refl _) (by simp [maxLen]) (by simp)
              have hb0 : Below wr.heap.size wr (wr.alloc (.cells #[] 68)).drew := ((Below.refl _ _).alloc (Nat.le_refl _) _).drew
              go_wp2_with fail
              go_region
              go_wp2_with (at_builtin; first
                | (refine wpList_append_own _ rfl (.tmp 66) (.tmp 67) 34 rfl wr.heap.size 68 i0 (.agg #[.int .i64 0, .int .i64 0]) 2 16 Tryd.underlying34 hi hz0 hz1 hz2 rfl (by decide) (.slice (some ⟨wr.heap.size, 0, none⟩) 0 0) 0 (tokCells []) rfl ho0 qa La ca (tokCells (Nm.rnorm a)) rfl hcla (fun j u hu => ((at_reads (at_below' HOA.out hb0)).tokA (by omega)).elim fun q h => by obtain ⟨e, h⟩ := h; injection e with e; subst e; exact h.2 j u hu) (tokCells_one _) (by unfold maxLen; omega) (by omega) (by simp) ?_
                   intro v1 w1' hown1 hgrow1 hnil1
                   rw [tokCells_nil, List.nil_append, Nat.zero_add] at hown1
                   obtain ⟨g1, d1, rfl⟩ := own_form hown1 (by omega)
                   have hB1 : Below wr.heap.size wr w1' := hb0.grown hgrow1 (by simp) (fun k h => by have h' : wr.heap.size = k := (by simpa [Value.ownBlock] using h); omega)
                   have hsz1 := hB1.size)
                | (refine wpList_append_own _ rfl (.tmp 68) (.tmp 69) 34 rfl wr.heap.size 68 i0 (.agg #[.int .i64 0, .int .i64 0]) 2 16 Tryd.underlying34 hi hz0 hz1 hz2 rfl (by decide) (.slice (some ⟨g1, 0, none⟩) La d1) La (tokCells (Nm.rnorm a)) rfl hown1 ⟨gb, ob, none⟩ 1 cb (tokCells (Nm.rnorm b2)) rfl hclb (fun j u hu => ((at_reads (at_below' HOB.out hB1)).tokA (by omega)).elim fun q h => by obtain ⟨e, h⟩ := h; injection e with e; subst e; exact h.2 j u hu) (tokCells_one _) (by unfold maxLen; omega) (by omega) (by omega) ?_
                   intro v2 w2' hown2 hgrow2 hnil2
                   obtain ⟨g2, d2, rfl⟩ := own_form hown2 (by omega)
                   have hB2 : Below wr.heap.size wr w2' := hB1.grown hgrow2 hsz1 (fun k h => (hown1.lt k h).1)
                   have ho2 : OwnA w2' wr.heap.size (some ⟨g2, 0, none⟩) (La + 1) d2 (Nm.rnorm a ++ Nm.rnorm b2) := by
                     unfold OwnA
                     rw [tokCells_append]
                     exact hown2
                   have hsz2 := hB2.size
                   have HLR := Lib.hid (l03Resid_any w2' w2'.heap.size (some ⟨g2, 0, none⟩) (La + 1) d2 (Nm.rnorm a ++ Nm.rnorm b2) s (Nat.le_refl _) (OwnA.reads ho2) (by omega) (by omega) HOKAB.out)
                   have HB2 := Lib.hid hB2
                   clear hown1 hgrow1 hnil1 hB1 hown2 hgrow2 hnil2 hB2 ho2 ho0 hb0))
              refine HLR.out.mono ?_
              rintro e wq ⟨Am, cm, rfl, hom, hbq⟩
              rw [HJ.out, HLM.out] at hom
              rw [HJ.out, HLM.out]
              have HBQ := Lib.hid (HB2.out.trans (hbq.mono hsz2))
              have hsq : wr.heap.size ≤ wq.heap.size := HBQ.out.size
              have HOM := Lib.hid (at_base hom (Nat.le_trans hszr hsz2))
              clear hom hbq HLR HB2
              have hpd := ((HP.out.below HBQ.out).alloc (.cells #[.slice Am Lm cm] 34)).drop 2 (by omega)
              obtain ⟨hD4, vals4, h24, h34⟩ := hpd
              have hba := (HBL.out.trans (HBQ.out.mono hszr)).alloc (Nat.le_trans hszr hsq) (.cells #[.slice Am Lm cm] 34)
              simp only [Nat.add_sub_cancel] at h24 hD4 h34
              clear HBQ
              go_wp2_with (at_builtin; refine wpList_append_own _ rfl (.tmp 76) (.tmp 78) 64 rfl w.heap.size 34 j0 (.slice none 0 0) 1 24 Tryd.underlying64 ji jz0 jz1 jz2 rfl (by decide) (.slice (some ⟨g, 0, none⟩) d c4) d vals4 rfl h24 ⟨wq.heap.size, 0, none⟩ 1 1 [.slice Am Lm cm] rfl rfl (cell_one_new _ _ _) (fun u hu => by simp at hu; subst hu; rfl) (by unfold maxLen; omega) (by omega) (by simp; omega) ?_
                           intro v' w3 hown' hgrow hnil
                           obtain ⟨g', c', rfl, hp3⟩ := PileO.push (a := Nm.rnorm (a ++ b2)) (A := Am) (ca := cm) hD4 h24 h34 (by rw [HLM.out]; exact at_below' HOM.out ((Below.refl _ _).alloc (Nat.le_refl _) _)) hgrow (by rw [HLM.out]; exact hown')
                           have HP3 := Lib.hid hp3
                           have HB3 : Hid (Below w.heap.size w w3) := hba.grown hgrow (by simp; omega) (fun k h => (h24.lt k h).1)
                           clear hown' hgrow hnil hp3 h24 h34 hba)
              go_wp2
              go_roundw
              case rel => exact ⟨k + 1, _, g', d + 1, c', by omega, by go_num, HR', rfl, Lib.hid (by rw [List.map_cons, if_neg HNE.out]; simpa using HP3.out), HB3.out⟩
              case measure => simp [intOf]; omega
          · have dL : ((Lb : Int) == 1) = false := by simp; omega
            obtain ⟨qa, rfl, hqa⟩ := (at_reads HOA.out).tokA (by omega)
            have hcla : (tokCells (Nm.rnorm a)).length = La * 2 := HOA.out.1
            have hclb : (tokCells (Nm.rnorm b2)).length = Lb * 2 := HOB.out.1
            have ho0 : OwnA (wr.alloc (.cells #[] 68)) wr.heap.size (some ⟨wr.heap.size, 0, none⟩) 0 0 [] := World.ownsRow_made wr #[] 0 (Nat.le_refl _) (by simp [maxLen]) (by simp)
            have hb0 : Below wr.heap.size wr (wr.alloc (.cells #[] 68)).drew := ((Below.refl _ _).alloc (Nat.le_refl _) _).drew
            go_wp2_with fail
            go_region
            go_wp2_with (at_builtin; first
              | (refine wpList_append_own _ rfl (.tmp 66) (.tmp 67) 34 rfl wr.heap.size 68 i0 (.agg #[.int .i64 0, .int .i64 0]) 2 16 Tryd.underlying34 hi hz0 hz1 hz2 rfl (by decide) (.slice (some ⟨wr.heap.size, 0, none⟩) 0 0) 0 (tokCells []) rfl ho0 qa La ca (tokCells (Nm.rnorm a)) rfl hcla (fun j u hu => ((at_reads (at_below' HOA.out hb0)).tokA (by omega)).elim fun q h => by obtain ⟨e, h⟩ := h; injection e with e; subst e; exact h.2 j u hu) (tokCells_one _) (by unfold maxLen; omega) (by omega) (by simp) ?_
                 intro v1 w1' hown1 hgrow1 hnil1
                 rw [tokCells_nil, List.nil_append, Nat.zero_add] at hown1
                 obtain ⟨g1, d1, rfl⟩ := own_form hown1 (by omega)
                 have hB1 : Below wr.heap.size wr w1' := hb0.grown hgrow1 (by simp) (fun k h => by have h' : wr.heap.size = k := (by simpa [Value.ownBlock] using h); omega)
                 have hsz1 := hB1.size)
              | (refine wpList_append_own _ rfl (.tmp 68) (.tmp 69) 34 rfl wr.heap.size 68 i0 (.agg #[.int .i64 0, .int .i64 0]) 2 16 Tryd.underlying34 hi hz0 hz1 hz2 rfl (by decide) (.slice (some ⟨g1, 0, none⟩) La d1) La (tokCells (Nm.rnorm a)) rfl hown1 ⟨gb, ob, none⟩ Lb cb (tokCells (Nm.rnorm b2)) rfl hclb (fun j u hu => ((at_reads (at_below' HOB.out hB1)).tokA (by omega)).elim fun q h => by obtain ⟨e, h⟩ := h; injection e with e; subst e; exact h.2 j u hu) (tokCells_one _) (by unfold maxLen; omega) (by omega) (by omega) ?_
                 intro v2 w2' hown2 hgrow2 hnil2
                 obtain ⟨g2, d2, rfl⟩ := own_form hown2 (by omega)
                 have hB2 : Below wr.heap.size wr w2' := hB1.grown hgrow2 hsz1 (fun k h => (hown1.lt k h).1)
                 have ho2 : OwnA w2' wr.heap.size (some ⟨g2, 0, none⟩) (La + Lb) d2 (Nm.rnorm a ++ Nm.rnorm b2) := by
                   unfold OwnA
                   rw [tokCells_append]
                   exact hown2
                 have hsz2 := hB2.size
                 have HLR := Lib.hid (l03Resid_any w2' w2'.heap.size (some ⟨g2, 0, none⟩) (La + Lb) d2 (Nm.rnorm a ++ Nm.rnorm b2) s (Nat.le_refl _) (OwnA.reads ho2) (by omega) (by omega) HOKAB.out)
                 have HB2 := Lib.hid hB2
                 clear hown1 hgrow1 hnil1 hB1 hown2 hgrow2 hnil2 hB2 ho2 ho0 hb0))
            refine HLR.out.mono ?_
            rintro e wq ⟨Am, cm, rfl, hom, hbq⟩
            rw [HJ.out, HLM.out] at hom
            rw [HJ.out, HLM.out]
            have HBQ := Lib.hid (HB2.out.trans (hbq.mono hsz2))
            have hsq : wr.heap.size ≤ wq.heap.size := HBQ.out.size
            have HOM := Lib.hid (at_base hom (Nat.le_trans hszr hsz2))
            clear hom hbq HLR HB2
            have hpd := ((HP.out.below HBQ.out).alloc (.cells #[.slice Am Lm cm] 34)).drop 2 (by omega)
            obtain ⟨hD4, vals4, h24, h34⟩ := hpd
            have hba := (HBL.out.trans (HBQ.out.mono hszr)).alloc (Nat.le_trans hszr hsq) (.cells #[.slice Am Lm cm] 34)
            simp only [Nat.add_sub_cancel] at h24 hD4 h34
            clear HBQ
            go_wp2_with (at_builtin; refine wpList_append_own _ rfl (.tmp 76) (.tmp 78) 64 rfl w.heap.size 34 j0 (.slice none 0 0) 1 24 Tryd.underlying64 ji jz0 jz1 jz2 rfl (by decide) (.slice (some ⟨g, 0, none⟩) d c4) d vals4 rfl h24 ⟨wq.heap.size, 0, none⟩ 1 1 [.slice Am Lm cm] rfl rfl (cell_one_new _ _ _) (fun u hu => by simp at hu; subst hu; rfl) (by unfold maxLen; omega) (by omega) (by simp; omega) ?_
                         intro v' w3 hown' hgrow hnil
                         obtain ⟨g', c', rfl, hp3⟩ := PileO.push (a := Nm.rnorm (a ++ b2)) (A := Am) (ca := cm) hD4 h24 h34 (by rw [HLM.out]; exact at_below' HOM.out ((Below.refl _ _).alloc (Nat.le_refl _) _)) hgrow (by rw [HLM.out]; exact hown')
                         have HP3 := Lib.hid hp3
                         have HB3 : Hid (Below w.heap.size w w3) := hba.grown hgrow (by simp; omega) (fun k h => (h24.lt k h).1)
                         clear hown' hgrow hnil hp3 h24 h34 hba)
            go_wp2
            go_roundw
            case rel => exact ⟨k + 1, _, g', d + 1, c', by omega, by go_num, HR', rfl, Lib.hid (by rw [List.map_cons, if_neg HNE.out]; simpa using HP3.out), HB3.out⟩
            case measure => simp [intOf]; omega
        · obtain rfl : op = 3 := e
          obtain ⟨a, b2, r, rfl, rfl⟩ := Nm.wstep_two hps (by omega)
          obtain ⟨d, rfl⟩ : ∃ d, D = d + 2 := ⟨r.length, by rw [← hDl]; rfl⟩
          have hsd : r.length = d := by simpa using hDl
          have hfa := hfine a (by simp)
          have hfb := hfine b2 (by simp)
          have hoka := hfine.allOk (by omega) (a := a) (by simp)
          have hokb := hfine.allOk (by omega) (a := b2) (by simp)
          have hokab : Nm.AllOk (Nm.rnorm a ++ Nm.rnorm b2) := (Nm.rnorm_allOk hoka).append (Nm.rnorm_allOk hokb)
          have HJ : Hid (Nm.resid s (Nm.rnorm a ++ Nm.rnorm b2) = Nm.rnorm (a ++ b2)) := by
            unfold Hid Nm.resid
            rw [Nm.pl_self ((hfa.2.1.rnorm).append (hfb.2.1.rnorm)), Nm.rnorm_join hoka hokb]
          have HOKAB := Lib.hid hokab
          have HZ := Lib.hid (Nm.rnorm_zero hfb.1 hokb)
          have ha1 : 1 ≤ (Nm.rnorm a).length := List.length_pos_iff.2 (Nm.rnorm_ne hfa.1 hoka)
          have hb1' : 1 ≤ (Nm.rnorm b2).length := List.length_pos_iff.2 (Nm.rnorm_ne hfb.1 hokb)
          have ha6 := Nm.rnorm_len a
          have hb6 := Nm.rnorm_len b2
          have hm6 := Nm.rnorm_len (a ++ b2)
          obtain ⟨Aa, ca, qa1, qa2⟩ := HP.out.at (i := d) (a := Nm.rnorm a) (by rw [List.map_cons, List.map_cons, List.reverse_cons, List.reverse_cons, List.append_assoc, List.getElem?_append_right (by simp [hsd]), List.length_reverse, List.length_map, hsd, Nat.sub_self]; rfl)
          obtain ⟨Ab, cb, qb1, qb2⟩ := HP.out.at (i := d + 1) (a := Nm.rnorm b2) (by rw [List.map_cons, List.map_cons, List.reverse_cons, List.getElem?_append_right (by simp [hsd]), List.length_reverse, List.length_cons, List.length_map, hsd, Nat.sub_self]; rfl)
          obtain ⟨La, hLa⟩ : ∃ La, (Nm.rnorm a).length = La := ⟨_, rfl⟩
          obtain ⟨Lb, hLb⟩ : ∃ Lb, (Nm.rnorm b2).length = Lb := ⟨_, rfl⟩
          obtain ⟨Lm, hLm⟩ : ∃ Lm, (Nm.rnorm (a ++ b2)).length = Lm := ⟨_, rfl⟩
          rw [hLa] at qa1 qa2 ha6 ha1
          rw [hLb] at qb1 qb2 hb6 hb1'
          rw [hLm] at hm6
          have HLM := Lib.hid hLm
          have HLB := Lib.hid hLb
          have HOA := Lib.hid qa2
          have HOB := Lib.hid qb2
          obtain ⟨gb, ob, eb, hbb, hcb⟩ := (at_reads qb2).2 (by omega)
          subst eb
          obtain ⟨z1, z2⟩ := hcb 0 (by omega)
          rw [Nat.zero_mul, Nat.add_zero] at z1 z2
          obtain ⟨u, hu⟩ : ∃ u, (Nm.rnorm b2).getD 0 (0, 0) = u := ⟨_, rfl⟩
          rw [hu] at z1 z2
          obtain ⟨zp, zx⟩ := u
          simp only at z1 z2
          have HUU := Lib.hid hu
          have hcap := HP.out.cap
          have hw2 : IntKind.i64.wrap ((d : Int) + 2 - 2) = (d : Int) := by rw [IntKind.wrap_i64]; omega
          have hw1 : IntKind.i64.wrap ((d : Int) + 2 - 1) = (d : Int) + 1 := by rw [IntKind.wrap_i64]; omega
          have n1 : (0 : Int) ≤ (d : Int) := by omega
          have n3 : (0 : Int) ≤ (d : Int) + 1 := by omega
          have n4 : (d : Int) < (d : Int) + 2 := by omega
          have n5 : (d : Int) + 1 < (d : Int) + 2 := by omega
          have n6 : ((d : Int) + 1).toNat = d + 1 := by omega
          clear hps htk hfine hfa hfb hoka hokb qa2 qb2 hLa hLb hLm hDl hokab hcb hu
          by_cases hL1 : Lb = 1
          · subst hL1
            have hbl : Nm.rnorm b2 = [(zp, zx)] := by
              have h1 := HLB.out
              have h2 := HUU.out
              match hq : Nm.rnorm b2, h1, h2 with
              | [q], _, h2 => rw [show q = (zp, zx) from h2]
            have HBL2 := Lib.hid hbl
            clear hbl
            by_cases hq1 : zp = -1
            · subst hq1
              by_cases hq2 : zx = 0
              · subst hq2
                have HEQ : Hid ((3 : Int) = 3 ∧ Nm.zeroL b2 = true) := ⟨rfl, HZ.out.1 HBL2.out⟩
                have HBQ : Hid (Below wr.heap.size wr wr) := Below.refl _ _
                have hsq : wr.heap.size ≤ wr.heap.size := Nat.le_refl _
                have HR1 := Lib.hid (rnorm_one (p := -1) (by omega) (by omega))
                have HRB : Hid (Nm.rnorm [(-1, 0)] = Nm.rnorm b2) := by unfold Hid; rw [HR1.out, HBL2.out]
                go_wp2_with fail
                go_region
                have hpd := ((HP.out.below HBQ.out).alloc (.cells #[.slice (some ⟨gb, ob, none⟩) 1 cb] 34)).drew.drop 2 (by omega)
                obtain ⟨hD4, vals4, h24, h34⟩ := hpd
                have hba := ((HBL.out.trans (HBQ.out.mono hszr)).alloc (Nat.le_trans hszr hsq) (.cells #[.slice (some ⟨gb, ob, none⟩) 1 cb] 34)).drew
                simp only [Nat.add_sub_cancel] at h24 hD4 h34
                clear HBQ
                go_wp2_with (at_builtin; refine wpList_append_own _ rfl (.tmp 76) (.tmp 78) 64 rfl w.heap.size 34 j0 (.slice none 0 0) 1 24 Tryd.underlying64 ji jz0 jz1 jz2 rfl (by decide) (.slice (some ⟨g, 0, none⟩) d c4) d vals4 rfl h24 ⟨wr.heap.size, 0, none⟩ 1 1 [.slice (some ⟨gb, ob, none⟩) 1 cb] rfl rfl (fun j u hu => cell_one_new wr (.slice (some ⟨gb, ob, none⟩) 1 cb) 34 j u hu) (fun u hu => by simp at hu; subst hu; rfl) (by unfold maxLen; omega) (by omega) (by simp; omega) ?_
                             intro v' w3 hown' hgrow hnil
                             obtain ⟨g', c', rfl, hp3⟩ := PileO.push (a := Nm.rnorm b2) (A := (some ⟨gb, ob, none⟩)) (ca := cb) hD4 h24 h34 (by rw [HLB.out]; exact at_below' HOB.out ((Below.refl _ _).alloc (Nat.le_refl _) _).drew) hgrow (by rw [HLB.out]; exact hown')
                             have HP3 := Lib.hid hp3
                             have HB3 : Hid (Below w.heap.size w w3) := hba.grown hgrow (by simp; omega) (fun k h => (h24.lt k h).1)
                             clear hown' hgrow hnil hp3 h24 h34 hba)
                go_wp2
                go_roundw
                case rel => exact ⟨k + 1, _, g', d + 1, c', by omega, by go_num, HR', rfl, Lib.hid (by rw [List.map_cons, if_pos HEQ.out, HRB.out]; simpa using HP3.out), HB3.out⟩
                case measure => simp [intOf]; omega
              · have dz : (zx == 0) = false := by simpa using hq2
                have hnz : Nm.rnorm b2 ≠ [(-1, 0)] := by
                  rw [HBL2.out]
                  intro h
                  simp at h
                  exact hq2 h
                have HNE : Hid (¬ ((3 : Int) = 3 ∧ Nm.zeroL b2 = true)) := fun h => hnz (HZ.out.2 h.2)
                clear hnz
                obtain ⟨qa, rfl, hqa⟩ := (at_reads HOA.out).tokA (by omega)
                have hcla : (tokCells (Nm.rnorm a)).length = La * 2 := HOA.out.1
                have hclb : (tokCells (Nm.rnorm b2)).length = 1 * 2 := HOB.out.1
                have ho0 : OwnA (wr.alloc (.cells #[] 68)) wr.heap.size (some ⟨wr.heap.size, 0, none⟩) 0 0 [] := World.ownsRow_made wr #[] 0 (Nat.le_refl _) (by simp [maxLen]) (by simp)
                have hb0 : Below wr.heap.size wr (wr.alloc (.cells #[] 68)).drew := ((Below.refl _ _).alloc (Nat.le_refl _) _).drew
                go_wp2_with fail
                go_region
                go_wp2_with (at_builtin; first
                  | (refine wpList_append_own _ rfl (.tmp 66) (.tmp 67) 34 rfl wr.heap.size 68 i0 (.agg #[.int .i64 0, .int .i64 0]) 2 16 Tryd.underlying34 hi hz0 hz1 hz2 rfl (by decide) (.slice (some ⟨wr.heap.size, 0, none⟩) 0 0) 0 (tokCells []) rfl ho0 qa La ca (tokCells (Nm.rnorm a)) rfl hcla (fun j u hu => ((at_reads (at_below' HOA.out hb0)).tokA (by omega)).elim fun q h => by obtain ⟨e, h⟩ := h; injection e with e; subst e; exact h.2 j u hu) (tokCells_one _) (by unfold maxLen; omega) (by omega) (by simp) ?_
                     intro v1 w1' hown1 hgrow1 hnil1
                     rw [tokCells_nil, List.nil_append, Nat.zero_add] at hown1
                     obtain ⟨g1, d1, rfl⟩ := own_form hown1 (by omega)
                     have hB1 : Below wr.heap.size wr w1' := hb0.grown hgrow1 (by simp) (fun k h => by have h' : wr.heap.size = k := (by simpa [Value.ownBlock] using h); omega)
                     have hsz1 := hB1.size)
                  | (refine wpList_append_own _ rfl (.tmp 68) (.tmp 69) 34 rfl wr.heap.size 68 i0 (.agg #[.int .i64 0, .int .i64 0]) 2 16 Tryd.underlying34 hi hz0 hz1 hz2 rfl (by decide) (.slice (some ⟨g1, 0, none⟩) La d1) La (tokCells (Nm.rnorm a)) rfl hown1 ⟨gb, ob, none⟩ 1 cb (tokCells (Nm.rnorm b2)) rfl hclb (fun j u hu => ((at_reads (at_below' HOB.out hB1)).tokA (by omega)).elim fun q h => by obtain ⟨e, h⟩ := h; injection e with e; subst e; exact h.2 j u hu) (tokCells_one _) (by unfold maxLen; omega) (by omega) (by omega) ?_
                     intro v2 w2' hown2 hgrow2 hnil2
                     obtain ⟨g2, d2, rfl⟩ := own_form hown2 (by omega)
                     have hB2 : Below wr.heap.size wr w2' := hB1.grown hgrow2 hsz1 (fun k h => (hown1.lt k h).1)
                     have ho2 : OwnA w2' wr.heap.size (some ⟨g2, 0, none⟩) (La + 1) d2 (Nm.rnorm a ++ Nm.rnorm b2) := by
                       unfold OwnA
                       rw [tokCells_append]
                       exact hown2
                     have hsz2 := hB2.size
                     have HLR := Lib.hid (l03Resid_any w2' w2'.heap.size (some ⟨g2, 0, none⟩) (La + 1) d2 (Nm.rnorm a ++ Nm.rnorm b2) s (Nat.le_refl _) (OwnA.reads ho2) (by omega) (by omega) HOKAB.out)
                     have HB2 := Lib.hid hB2
                     clear hown1 hgrow1 hnil1 hB1 hown2 hgrow2 hnil2 hB2 ho2 ho0 hb0))
                refine HLR.out.mono ?_
                rintro e wq ⟨Am, cm, rfl, hom, hbq⟩
                rw [HJ.out, HLM.out] at hom
                rw [HJ.out, HLM.out]
                have HBQ := Lib.hid (HB2.out.trans (hbq.mono hsz2))
                have hsq : wr.heap.size ≤ wq.heap.size := HBQ.out.size
                have HOM := Lib.hid (at_base hom (Nat.le_trans hszr hsz2))
                clear hom hbq HLR HB2
                have hpd := ((HP.out.below HBQ.out).alloc (.cells #[.slice Am Lm cm] 34)).drop 2 (by omega)
                obtain ⟨hD4, vals4, h24, h34⟩ := hpd
                have hba := (HBL.out.trans (HBQ.out.mono hszr)).alloc (Nat.le_trans hszr hsq) (.cells #[.slice Am Lm cm] 34)
                simp only [Nat.add_sub_cancel] at h24 hD4 h34
                clear HBQ
                go_wp2_with (at_builtin; refine wpList_append_own _ rfl (.tmp 76) (.tmp 78) 64 rfl w.heap.size 34 j0 (.slice none 0 0) 1 24 Tryd.underlying64 ji jz0 jz1 jz2 rfl (by decide) (.slice (some ⟨g, 0, none⟩) d c4) d vals4 rfl h24 ⟨wq.heap.size, 0, none⟩ 1 1 [.slice Am Lm cm] rfl rfl (cell_one_new _ _ _) (fun u hu => by simp at hu; subst hu; rfl) (by unfold maxLen; omega) (by omega) (by simp; omega) ?_
                             intro v' w3 hown' hgrow hnil
                             obtain ⟨g', c', rfl, hp3⟩ := PileO.push (a := Nm.rnorm (a ++ b2)) (A := Am) (ca := cm) hD4 h24 h34 (by rw [HLM.out]; exact at_below' HOM.out ((Below.refl _ _).alloc (Nat.le_refl _) _)) hgrow (by rw [HLM.out]; exact hown')
                             have HP3 := Lib.hid hp3
                             have HB3 : Hid (Below w.heap.size w w3) := hba.grown hgrow (by simp; omega) (fun k h => (h24.lt k h).1)
                             clear hown' hgrow hnil hp3 h24 h34 hba)
                go_wp2
                go_roundw
                case rel => exact ⟨k + 1, _, g', d + 1, c', by omega, by go_num, HR', rfl, Lib.hid (by rw [List.map_cons, if_neg HNE.out]; simpa using HP3.out), HB3.out⟩
                case measure => simp [intOf]; omega
            · have dz : (zp == -1) = false := by simpa using hq1
              have hnz : Nm.rnorm b2 ≠ [(-1, 0)] := by
                rw [HBL2.out]
                intro h
                simp at h
                exact hq1 h.1
              have HNE : Hid (¬ ((3 : Int) = 3 ∧ Nm.zeroL b2 = true)) := fun h => hnz (HZ.out.2 h.2)
              clear hnz
              obtain ⟨qa, rfl, hqa⟩ := (at_reads HOA.out).tokA (by omega)
              have hcla : (tokCells (Nm.rnorm a)).length = La * 2 := HOA.out.1
              have hclb : (tokCells (Nm.rnorm b2)).length = 1 * 2 := HOB.out.1
              have ho0 : OwnA (wr.alloc (.cells #[] 68)) wr.heap.size (some ⟨wr.heap.size, 0, none⟩) 0 0 [] := World.ownsRow_made wr #[] 0 (Nat.le_refl _) (by simp [maxLen]) (by simp)
              have hb0 : Below wr.heap.size wr (wr.alloc (.cells #[] 68)).drew := ((Below.refl _ _).alloc (Nat.le_refl _) _).drew
              go_wp2_with fail
              go_region
              go_wp2_with (at_builtin; first
                | (refine wpList_append_own _ rfl (.tmp 66) (.tmp 67) 34 rfl wr.heap.size 68 i0 (.agg #[.int .i64 0, .int .i64 0]) 2 16 Tryd.underlying34 hi hz0 hz1 hz2 rfl (by decide) (.slice (some ⟨wr.heap.size, 0, none⟩) 0 0) 0 (tokCells []) rfl ho0 qa La ca (tokCells (Nm.rnorm a)) rfl hcla (fun j u hu => ((at_reads (at_below' HOA.out hb0)).tokA (by omega)).elim fun q h => by obtain ⟨e, h⟩ := h; injection e with e; subst e; exact h.2 j u hu) (tokCells_one _) (by unfold maxLen; omega) (by omega) (by simp) ?_
                   intro v1 w1' hown1 hgrow1 hnil1
                   rw [tokCells_nil, List.nil_append, Nat.zero_add] at hown1
                   obtain ⟨g1, d1, rfl⟩ := own_form hown1 (by omega)
                   have hB1 : Below wr.heap.size wr w1' := hb0.grown hgrow1 (by simp) (fun k h => by have h' : wr.heap.size = k := (by simpa [Value.ownBlock] using h); omega)
                   have hsz1 := hB1.size)
                | (refine wpList_append_own _ rfl (.tmp 68) (.tmp 69) 34 rfl wr.heap.size 68 i0 (.agg #[.int .i64 0, .int .i64 0]) 2 16 Tryd.underlying34 hi hz0 hz1 hz2 rfl (by decide) (.slice (some ⟨g1, 0, none⟩) La d1) La (tokCells (Nm.rnorm a)) rfl hown1 ⟨gb, ob, none⟩ 1 cb (tokCells (Nm.rnorm b2)) rfl hclb (fun j u hu => ((at_reads (at_below' HOB.out hB1)).tokA (by omega)).elim fun q h => by obtain ⟨e, h⟩ := h; injection e with e; subst e; exact h.2 j u hu) (tokCells_one _) (by unfold maxLen; omega) (by omega) (by omega) ?_
                   intro v2 w2' hown2 hgrow2 hnil2
                   obtain ⟨g2, d2, rfl⟩ := own_form hown2 (by omega)
                   have hB2 : Below wr.heap.size wr w2' := hB1.grown hgrow2 hsz1 (fun k h => (hown1.lt k h).1)
                   have ho2 : OwnA w2' wr.heap.size (some ⟨g2, 0, none⟩) (La + 1) d2 (Nm.rnorm a ++ Nm.rnorm b2) := by
                     unfold OwnA
                     rw [tokCells_append]
                     exact hown2
                   have hsz2 := hB2.size
                   have HLR := Lib.hid (l03Resid_any w2' w2'.heap.size (some ⟨g2, 0, none⟩) (La + 1) d2 (Nm.rnorm a ++ Nm.rnorm b2) s (Nat.le_refl _) (OwnA.reads ho2) (by omega) (by omega) HOKAB.out)
                   have HB2 := Lib.hid hB2
                   clear hown1 hgrow1 hnil1 hB1 hown2 hgrow2 hnil2 hB2 ho2 ho0 hb0))
              refine HLR.out.mono ?_
              rintro e wq ⟨Am, cm, rfl, hom, hbq⟩
              rw [HJ.out, HLM.out] at hom
              rw [HJ.out, HLM.out]
              have HBQ := Lib.hid (HB2.out.trans (hbq.mono hsz2))
              have hsq : wr.heap.size ≤ wq.heap.size := HBQ.out.size
              have HOM := Lib.hid (at_base hom (Nat.le_trans hszr hsz2))
              clear hom hbq HLR HB2
              have hpd := ((HP.out.below HBQ.out).alloc (.cells #[.slice Am Lm cm] 34)).drop 2 (by omega)
              obtain ⟨hD4, vals4, h24, h34⟩ := hpd
              have hba := (HBL.out.trans (HBQ.out.mono hszr)).alloc (Nat.le_trans hszr hsq) (.cells #[.slice Am Lm cm] 34)
              simp only [Nat.add_sub_cancel] at h24 hD4 h34
              clear HBQ
              go_wp2_with (at_builtin; refine wpList_append_own _ rfl (.tmp 76) (.tmp 78) 64 rfl w.heap.size 34 j0 (.slice none 0 0) 1 24 Tryd.underlying64 ji jz0 jz1 jz2 rfl (by decide) (.slice (some ⟨g, 0, none⟩) d c4) d vals4 rfl h24 ⟨wq.heap.size, 0, none⟩ 1 1 [.slice Am Lm cm] rfl rfl (cell_one_new _ _ _) (fun u hu => by simp at hu; subst hu; rfl) (by unfold maxLen; omega) (by omega) (by simp; omega) ?_
                           intro v' w3 hown' hgrow hnil
                           obtain ⟨g', c', rfl, hp3⟩ := PileO.push (a := Nm.rnorm (a ++ b2)) (A := Am) (ca := cm) hD4 h24 h34 (by rw [HLM.out]; exact at_below' HOM.out ((Below.refl _ _).alloc (Nat.le_refl _) _)) hgrow (by rw [HLM.out]; exact hown')
                           have HP3 := Lib.hid hp3
                           have HB3 : Hid (Below w.heap.size w w3) := hba.grown hgrow (by simp; omega) (fun k h => (h24.lt k h).1)
                           clear hown' hgrow hnil hp3 h24 h34 hba)
              go_wp2
              go_roundw
              case rel => exact ⟨k + 1, _, g', d + 1, c', by omega, by go_num, HR', rfl, Lib.hid (by rw [List.map_cons, if_neg HNE.out]; simpa using HP3.out), HB3.out⟩
              case measure => simp [intOf]; omega
          · have dL : ((Lb : Int) == 1) = false := by simp; omega
            have hnz : Nm.rnorm b2 ≠ [(-1, 0)] := by
              intro h
              have h2 := HLB.out
              rw [h] at h2
              simp at h2
              omega
            have HNE : Hid (¬ ((3 : Int) = 3 ∧ Nm.zeroL b2 = true)) := fun h => hnz (HZ.out.2 h.2)
            clear hnz
            obtain ⟨qa, rfl, hqa⟩ := (at_reads HOA.out).tokA (by omega)
            have hcla : (tokCells (Nm.rnorm a)).length = La * 2 := HOA.out.1
            have hclb : (tokCells (Nm.rnorm b2)).length = Lb * 2 := HOB.out.1
            have ho0 : OwnA (wr.alloc (.cells #[] 68)) wr.heap.size (some ⟨wr.heap.size, 0, none⟩) 0 0 [] := World.ownsRow_made wr #[] 0 (Nat.le_refl _) (by simp [maxLen]) (by simp)
            have hb0 : Below wr.heap.size wr (wr.alloc (.cells #[] 68)).drew := ((Below.refl _ _).alloc (Nat.le_refl _) _).drew
            go_wp2_with fail
            go_region
            go_wp2_with (at_builtin; first
              | (refine wpList_append_own _ rfl (.tmp 66) (.tmp 67) 34 rfl wr.heap.size 68 i0 (.agg #[.int .i64 0, .int .i64 0]) 2 16 Tryd.underlying34 hi hz0 hz1 hz2 rfl (by decide) (.slice (some ⟨wr.heap.size, 0, none⟩) 0 0) 0 (tokCells []) rfl ho0 qa La ca (tokCells (Nm.rnorm a)) rfl hcla (fun j u hu => ((at_reads (at_below' HOA.out hb0)).tokA (by omega)).elim fun q h => by obtain ⟨e, h⟩ := h; injection e with e; subst e; exact h.2 j u hu) (tokCells_one _) (by unfold maxLen; omega) (by omega) (by simp) ?_
                 intro v1 w1' hown1 hgrow1 hnil1
                 rw [tokCells_nil, List.nil_append, Nat.zero_add] at hown1
                 obtain ⟨g1, d1, rfl⟩ := own_form hown1 (by omega)
                 have hB1 : Below wr.heap.size wr w1' := hb0.grown hgrow1 (by simp) (fun k h => by have h' : wr.heap.size = k := (by simpa [Value.ownBlock] using h); omega)
                 have hsz1 := hB1.size)
              | (refine wpList_append_own _ rfl (.tmp 68) (.tmp 69) 34 rfl wr.heap.size 68 i0 (.agg #[.int .i64 0, .int .i64 0]) 2 16 Tryd.underlying34 hi hz0 hz1 hz2 rfl (by decide) (.slice (some ⟨g1, 0, none⟩) La d1) La (tokCells (Nm.rnorm a)) rfl hown1 ⟨gb, ob, none⟩ Lb cb (tokCells (Nm.rnorm b2)) rfl hclb (fun j u hu => ((at_reads (at_below' HOB.out hB1)).tokA (by omega)).elim fun q h => by obtain ⟨e, h⟩ := h; injection e with e; subst e; exact h.2 j u hu) (tokCells_one _) (by unfold maxLen; omega) (by omega) (by omega) ?_
                 intro v2 w2' hown2 hgrow2 hnil2
                 obtain ⟨g2, d2, rfl⟩ := own_form hown2 (by omega)
                 have hB2 : Below wr.heap.size wr w2' := hB1.grown hgrow2 hsz1 (fun k h => (hown1.lt k h).1)
                 have ho2 : OwnA w2' wr.heap.size (some ⟨g2, 0, none⟩) (La + Lb) d2 (Nm.rnorm a ++ Nm.rnorm b2) := by
                   unfold OwnA
                   rw [tokCells_append]
                   exact hown2
                 have hsz2 := hB2.size
                 have HLR := Lib.hid (l03Resid_any w2' w2'.heap.size (some ⟨g2, 0, none⟩) (La + Lb) d2 (Nm.rnorm a ++ Nm.rnorm b2) s (Nat.le_refl _) (OwnA.reads ho2) (by omega) (by omega) HOKAB.out)
                 have HB2 := Lib.hid hB2
                 clear hown1 hgrow1 hnil1 hB1 hown2 hgrow2 hnil2 hB2 ho2 ho0 hb0))
            refine HLR.out.mono ?_
            rintro e wq ⟨Am, cm, rfl, hom, hbq⟩
            rw [HJ.out, HLM.out] at hom
            rw [HJ.out, HLM.out]
            have HBQ := Lib.hid (HB2.out.trans (hbq.mono hsz2))
            have hsq : wr.heap.size ≤ wq.heap.size := HBQ.out.size
            have HOM := Lib.hid (at_base hom (Nat.le_trans hszr hsz2))
            clear hom hbq HLR HB2
            have hpd := ((HP.out.below HBQ.out).alloc (.cells #[.slice Am Lm cm] 34)).drop 2 (by omega)
            obtain ⟨hD4, vals4, h24, h34⟩ := hpd
            have hba := (HBL.out.trans (HBQ.out.mono hszr)).alloc (Nat.le_trans hszr hsq) (.cells #[.slice Am Lm cm] 34)
            simp only [Nat.add_sub_cancel] at h24 hD4 h34
            clear HBQ
            go_wp2_with (at_builtin; refine wpList_append_own _ rfl (.tmp 76) (.tmp 78) 64 rfl w.heap.size 34 j0 (.slice none 0 0) 1 24 Tryd.underlying64 ji jz0 jz1 jz2 rfl (by decide) (.slice (some ⟨g, 0, none⟩) d c4) d vals4 rfl h24 ⟨wq.heap.size, 0, none⟩ 1 1 [.slice Am Lm cm] rfl rfl (cell_one_new _ _ _) (fun u hu => by simp at hu; subst hu; rfl) (by unfold maxLen; omega) (by omega) (by simp; omega) ?_
                         intro v' w3 hown' hgrow hnil
                         obtain ⟨g', c', rfl, hp3⟩ := PileO.push (a := Nm.rnorm (a ++ b2)) (A := Am) (ca := cm) hD4 h24 h34 (by rw [HLM.out]; exact at_below' HOM.out ((Below.refl _ _).alloc (Nat.le_refl _) _)) hgrow (by rw [HLM.out]; exact hown')
                         have HP3 := Lib.hid hp3
                         have HB3 : Hid (Below w.heap.size w w3) := hba.grown hgrow (by simp; omega) (fun k h => (h24.lt k h).1)
                         clear hown' hgrow hnil hp3 h24 h34 hba)
            go_wp2
            go_roundw
            case rel => exact ⟨k + 1, _, g', d + 1, c', by omega, by go_num, HR', rfl, Lib.hid (by rw [List.map_cons, if_neg HNE.out]; simpa using HP3.out), HB3.out⟩
            case measure => simp [intOf]; omega
        · obtain rfl : op = 4 := e
          obtain rfl := Nm.wstep_par hps
          have hy : 0 ≤ y ∧ y < 5 := by simp [Lv.tkOk] at htk; omega
          have hoky : Nm.AllOk [(y, 0)] := Nm.allOk_of_mem fun a ha => by
            obtain rfl : a = (y, 0) := by simpa using ha
            exact (Nm.atOk_iff _).2 (by simp; omega)
          have HRS : Hid (Nm.resid s [(y, 0)] = Nm.rnorm [Nm.pl s (y, 0)]) := rfl
          have hl6 := Nm.rnorm_len [Nm.pl s (y, 0)]
          obtain ⟨Lp, hLp⟩ : ∃ Lp, (Nm.rnorm [Nm.pl s (y, 0)]).length = Lp := ⟨_, rfl⟩
          rw [hLp] at hl6
          have HLP := Lib.hid hLp
          have hb0 : Below wr.heap.size wr (wr.alloc (.cells #[.int .i64 y, .int .i64 0] 68)) := (Below.refl _ _).alloc (Nat.le_refl _) _
          have hel : OwnA (wr.alloc (.cells #[.int .i64 y, .int .i64 0] 68)) wr.heap.size (some ⟨wr.heap.size, 0, none⟩) 1 1 [(y, 0)] := own_litO (Blk.made wr _ _) (Nat.le_refl _)
          have HLR := Lib.hid (l03Resid_any (wr.alloc (.cells #[.int .i64 y, .int .i64 0] 68)) _ (some ⟨wr.heap.size, 0, none⟩) 1 1 [(y, 0)] s (Nat.le_refl _) (OwnA.reads hel) (by omega) (by omega) hoky)
          have HB0 := Lib.hid hb0
          clear hps htk hfine hy hoky hel hb0 hLp
          go_wp2_with fail
          refine HLR.out.mono ?_
          rintro e wq ⟨Am, cm, rfl, hom, hbq⟩
          rw [HRS.out, HLP.out] at hom
          rw [HRS.out, HLP.out]
          have hbq2 := HB0.out.trans (hbq.mono (by simp))
          have hsq : wr.heap.size ≤ wq.heap.size := hbq2.size
          have HOM := Lib.hid (at_base hom (show w.heap.size ≤ _ by simp; omega))
          obtain ⟨hD, vals, h2, h3⟩ := (HP.out.below hbq2).alloc (.cells #[.slice Am Lp cm] 34)
          have hba := (HBL.out.trans (hbq2.mono hszr)).alloc (Nat.le_trans hszr hsq) (.cells #[.slice Am Lp cm] 34)
          clear hom hbq hbq2 HLR
          go_wp2_with (at_builtin; refine wpList_append_own _ rfl (.tmp 89) (.tmp 99) 64 rfl w.heap.size 34 j0 (.slice none 0 0) 1 24 Tryd.underlying64 ji jz0 jz1 jz2 rfl (by decide) (.slice (some ⟨g, 0, none⟩) D c4) D vals rfl h2 ⟨wq.heap.size, 0, none⟩ 1 1 [.slice Am Lp cm] rfl rfl (cell_one_new _ _ _) (fun u hu => by simp at hu; subst hu; rfl) (by unfold maxLen; omega) (by omega) (by simp; omega) ?_
                       intro v' w3 hown' hgrow hnil
                       obtain ⟨g', c', rfl, hp3⟩ := PileO.push (a := Nm.rnorm [Nm.pl s (y, 0)]) (A := Am) (ca := cm) hD h2 h3 (by rw [HLP.out]; exact at_below' HOM.out ((Below.refl _ _).alloc (Nat.le_refl _) _)) hgrow (by rw [HLP.out]; exact hown')
                       have HP3 := Lib.hid hp3
                       have HB3 : Hid (Below w.heap.size w w3) := hba.grown hgrow (by simp; omega) (fun k h => (h2.lt k h).1)
                       clear hown' hgrow hnil hp3 h2 h3 hba)
          go_wp2
          go_roundw
          case rel => exact ⟨k + 1, _, g', D + 1, c', by omega, by go_num, HR', rfl, HP3, HB3.out⟩
          case measure => simp [intOf]; omega
      · obtain rfl : k = n := by omega
        have htl : l.take k = l := List.take_of_length_le (by rw [hl.1]; exact Nat.le_refl _)
        obtain ⟨a, ha⟩ := Nm.wrun_one (s := s) HO.out
        have hst : st = [a] := by
          have h := HR.out
          rw [htl, ha] at h
          injection h with h
          exact h.symm
        subst hst
        have HLF := Lib.hid (Nm.wl_of ha)
        have hfa := hfine a (by simp)
        have hl1 : 1 ≤ (Nm.rnorm a).length := List.length_pos_iff.2 (Nm.rnorm_ne hfa.1 (hfine.allOk (by omega) (by simp)))
        have hl6 := Nm.rnorm_len a
        obtain rfl : 1 = D := hDl
        obtain ⟨Aa, ca, q1, q2⟩ := HP.out.at (i := 0) (a := Nm.rnorm a) rfl
        obtain ⟨La, hLa⟩ : ∃ La, (Nm.rnorm a).length = La := ⟨_, rfl⟩
        rw [hLa] at q1 q2 hl1 hl6
        have HLA := Lib.hid hLa
        have hb0 : Below wr.heap.size wr (wr.alloc (.cells #[] 68)) := (Below.refl _ _).alloc (Nat.le_refl _) _
        have ho0 : OwnA (wr.alloc (.cells #[] 68)) w.heap.size (some ⟨wr.heap.size, 0, none⟩) 0 0 [] := World.ownsRow_made wr #[] 0 hszr (by simp [maxLen]) (by simp)
        obtain ⟨qa, rfl, hqa⟩ := (at_reads (at_below' q2 hb0)).tokA (by omega)
        have hcl : (tokCells (Nm.rnorm a)).length = La * 2 := q2.1
        have q3 : (wr.alloc (.cells #[] 68)).cell? ⟨g, 0, none⟩ = some (.slice (some qa) La ca) := (hb0.cell (p := ⟨g, 0, none⟩) (World.block_lt_of_cell? wr _ q1)).trans q1
        clear hLa ha htl hfine hfa q2 q1
        go_wp2_with (at_builtin; refine wpList_append_own _ rfl (.tmp 115) (.tmp 118) 34 rfl w.heap.size 68 i0 (.agg #[.int .i64 0, .int .i64 0]) 2 16 Tryd.underlying34 hi hz0 hz1 hz2 rfl (by decide) (.slice (some ⟨wr.heap.size, 0, none⟩) 0 0) 0 (tokCells []) rfl ho0 qa La ca (tokCells (Nm.rnorm a)) rfl hcl hqa.2 (tokCells_one _) (by unfold maxLen; omega) (by omega) (by simp; omega) ?_
                     intro v1 w1' hown1 hgrow1 hnil1
                     rw [tokCells_nil, List.nil_append, Nat.zero_add] at hown1
                     obtain ⟨g1, d1, rfl⟩ := own_form hown1 (by omega)
                     have HB1 : Hid (Below w.heap.size w w1') := (hbel.alloc hszr _).grown hgrow1 (by simp; omega) (fun k h => by have h' : wr.heap.size = k := (by simpa [Value.ownBlock] using h); omega)
                     have HOW1 := Lib.hid hown1
                     clear hown1 hgrow1 hnil1)
        go_wp2
        go_ret2
        rw [HF.out, HLF.out]
        exact ⟨_, _, by simp only [Option.getD_some, HLA.out]; rfl, by simp only [Option.getD_some, HLA.out]; exact OwnO.of HOW1.out, HB1.out⟩
end Go.Proofs.YtijiohdddfdjfaaDoor

namespace Go.Proofs.YtijiohdddfdjfaaDoor
open Go.RowKit

theorem wl_fine {s : Int} {l : List (Int × Int)} (h : Lv.levelOk l = true) : Nm.wl s l ≠ [] ∧ Nm.Pst s (Nm.wl s l) ∧ Nm.AllOk (Nm.wl s l) := by
  obtain ⟨a, ha⟩ := Nm.wrun_one (s := s) h
  have hl := (ok_lenO h).2
  have hf := Nm.wfine_run (k := 0) (fun a ha => by simp at ha) ha
  have hfa := hf a (by simp)
  rw [Nm.wl_of ha]
  exact ⟨hfa.1, hfa.2.1, hf.allOk (by omega) (by simp)⟩

set_option maxRecDepth 100000 in
set_option maxHeartbeats 3200000 in
theorem residualOf_any (w : World) (B : Nat) (A : Option Addr) (n c : Nat) (l : List (Int × Int)) (s : Int) (T : TypeId) (pv : Value) (h0 : 0 < B) (hB : B ≤ w.heap.size)
    (hl : TokR w B A n l) (hok : Lv.levelOk l = true) (hs : Sg.isSign s = true) (hE : ErrAt w T pv) :
    Calls Tryd.prog 48 #[.slice A n c, .int .i64 s] w (ResAO w (Nm.rnorm (Nm.wl s l))) := by
  obtain ⟨hne, hpst, hall⟩ := wl_fine (s := s) hok
  go_enter Tryd.func48, Tryd.ntmps48
  go_wp2_with fail
  refine (withoutImax_any w B A n c l s T pv h0 hB hl hok hs hE).mono ?_
  rintro e w1 ⟨g1, c1, ts, rfl, ho1, hrel, hl24, hb1⟩
  have hs1 := hb1.size
  have hfr : Nm.freeR ts = some (Nm.norm (Nm.wl s l)) := by
    rw [freeR_yes ⟨hrel.ok hl24, hrel.2⟩, leafs_of hrel.1]
  obtain ⟨Lt, hLt⟩ : ∃ Lt, ts.length = Lt := ⟨_, rfl⟩
  rw [hLt] at ho1 hl24 ⊢
  have HNF := Lib.hid (implNormFree_any w1 w1.heap.size (some ⟨g1, 0, none⟩) Lt c1 ts T pv (by omega) (Nat.le_refl _) (OwnT.reads ho1) (by omega) (hE.below (hb1.mono hB) h0))
  rw [hfr] at HNF
  have HB1 := Lib.hid hb1
  have hlen := Nm.norm_len (Nm.wl s l)
  have hNok := (Nm.norm_ok hne hall)
  have hpt := Nm.norm_parts (Nm.wl s l)
  obtain ⟨L, hL⟩ : ∃ L, Nm.wl s l = L := ⟨_, rfl⟩
  rw [hL] at HNF hlen hNok hpt
  have HWL := Lib.hid hL
  obtain ⟨N, hN⟩ : ∃ N, Nm.norm L = N := ⟨_, rfl⟩
  obtain ⟨M, hM⟩ : ∃ M, N.length = M := ⟨_, rfl⟩
  rw [hN] at HNF hlen hNok hpt
  have hM1 : 1 ≤ M := by rw [← hM]; exact hNok.1
  rw [hM] at hlen
  have HNO := Lib.hid hNok.2.1
  have HNN := Lib.hid hN
  have HMM := Lib.hid hM
  clear hne hall hfr hLt ho1 hrel hb1 hNok hpst hN hM hL
  go_wp2_with fail
  refine HNF.out.mono ?_
  rintro e w2 ⟨A2, c2, rfl, ho2, hb2⟩
  simp only [Option.getD_some, Option.isSome_some, HMM.out] at ho2 ⊢
  have hb02 := HB1.out.trans (hb2.mono hs1)
  obtain ⟨g2, c2', hv⟩ := own_form ho2 (by omega)
  injection hv with e1 _ e3
  subst e1; subst e3
  have hr2 := OwnA.reads ho2
  obtain ⟨b, off, e, hb, hc⟩ := hr2.2 (by omega)
  injection e with e
  injection e with e1 e2
  subst e1; subst e2
  obtain ⟨z1, z2⟩ := hc 0 (by omega)
  rw [Nat.zero_mul, Nat.add_zero] at z1 z2
  have hcap := own_capR ho2
  have HO2 := Lib.hid (own_base (base' := w.heap.size) ho2 hs1)
  have HB2 := Lib.hid hb02
  have hi0 : 0 < M := by omega
  have HNI := Lib.hid (numberIsNeeded_any w2 w2.heap.size g2 0 M c2 N (Nat.le_refl _) hr2 (by omega) hM1 hcap HNO.out)
  clear hc hr2 ho2 hb2 hb02 HNF
  rcases hpt with ⟨hlt3, hnp⟩ | ⟨hlt3, hnp, hrn⟩
  · have hrn := Nm.rnorm_of_norm hlt3
    rw [HNN.out] at hrn
    have h00 : N.getD 0 (0, 0) = (-1, Nm.best (-1) L) := by rw [hnp]; rfl
    have hdrop : N.drop 1 = Nm.pars L 5 := by rw [hnp]; rfl
    rw [h00] at z1 z2 HNI
    simp only at z1 z2 HNI
    rw [hdrop] at HNI
    cases hx : Nm.exceeds (Nm.best (-1) L - 1) (Nm.pars L 5) with
    | true =>
      rw [hx, if_pos rfl] at hrn
      rw [hx] at HNI
      have HRN := Lib.hid hrn
      clear hrn h00 hdrop hx hlt3 hnp z2
      go_wp2_with fail
      refine HNI.out.mono ?_
      rintro e w3 ⟨rfl, hb3⟩
      have HB3 := Lib.hid (HB2.out.trans (hb3.mono HB2.out.size))
      have HO3 := Lib.hid (own_below' HO2.out hb3)
      clear hb3 HNI
      go_wp2
      go_ret
      rw [HWL.out, HRN.out]
      exact ⟨_, _, by rw [HMM.out]; rfl, by rw [HMM.out]; exact OwnO.of HO3.out, HB3.out⟩
    | false =>
      rw [hx, if_neg (by decide)] at hrn
      rw [hx] at HNI
      have hln : (Nm.pars L 5).length = M - 1 := by rw [← hdrop, List.length_drop, HMM.out]
      have hpn : 1 ≤ M - 1 := by
        rw [← hln]
        refine List.length_pos_iff.2 (fun e => ?_)
        have : Nm.exceeds (Nm.best (-1) L - 1) (Nm.pars L 5) = true := by
          rw [Nm.exceeds_iff, Nm.exceeds_mem, e]; intro a ha; simp at ha
        rw [hx] at this
        cases this
      obtain ⟨jj, rfl⟩ : ∃ jj, M = jj + 1 := ⟨M - 1, by omega⟩
      have HRN : Hid (Nm.rnorm L = N.drop 1) := by unfold Hid; rw [hrn, hdrop]
      have HTL : Hid ((N.drop 1).length = jj) := by unfold Hid; rw [List.length_drop, HMM.out]; rfl
      have hsl := run_tail2 g2 (jj + 1) c2 (by omega) hcap
      simp only [Nat.add_sub_cancel] at hsl
      clear hrn h00 hdrop hx hlt3 hnp z2 hln
      go_wp2_with fail
      refine HNI.out.mono ?_
      rintro e w3 ⟨rfl, hb3⟩
      have HB3 := Lib.hid (HB2.out.trans (hb3.mono HB2.out.size))
      have HO3 := Lib.hid (OwnO.tail (own_below' HO2.out hb3))
      clear hb3 HNI
      go_wp2
      go_ret
      rw [HWL.out, HRN.out]
      exact ⟨_, _, by rw [HTL.out]; rfl, by rw [HTL.out]; exact HO3.out, HB3.out⟩
  · have HRN : Hid (Nm.rnorm L = N) := by unfold Hid; rw [hrn, ← hnp]
    have hp0 : 0 ≤ (N.getD 0 (0, 0)).1 := by
      have hmem := Nm.mem_getD (l := N) (k := 0) (by rw [HMM.out]; omega)
      rw [hnp] at hmem ⊢
      exact (Nm.pars_mem.1 hmem).1
    generalize N.getD 0 (0, 0) = t at z1 z2 hp0
    obtain ⟨p, x⟩ := t
    simp only at z1 z2 hp0
    have dp : (p == -1) = false := by simp; omega
    clear hrn hnp hlt3 HNI
    go_wp2
    go_ret
    rw [HWL.out, HRN.out]
    exact ⟨_, _, by rw [HMM.out]; rfl, by rw [HMM.out]; exact OwnO.of HO2.out, HB2.out⟩

set_option maxRecDepth 100000 in
set_option maxHeartbeats 1600000 in
theorem implResidual_any (w : World) (B : Nat) (A : Option Addr) (n c : Nat) (l : List (Int × Int)) (s : Int) (T : TypeId) (pv : Value) (h0 : 0 < B) (hB : B ≤ w.heap.size)
    (hl : TokR w B A n l) (hn : (n : Int) ≤ 140737488355328) (hE : ErrAt w T pv) :
    Calls Tryd.prog 18 #[.slice A n c, .int .i64 s] w (ResO w (Nm.residR s l)) := by
  cases h1 : Lv.levelOk l with
  | false =>
    have HF : Hid (Nm.residR s l = none) := residR_no (fun h => by rw [h1] at h; cases h.1)
    have HO := Lib.hid h1
    clear h1
    go_enter Tryd.func18, Tryd.ntmps18
    go_wp2_with fail
    refine (levelOk_any w B A n c l T pv h0 hB hl hn hE).mono ?_
    rintro e w1 ⟨rfl, hb1⟩
    rw [HO.out]
    go_wp2
    go_ret2
    rw [HF.out]
    exact resO_none hb1
  | true =>
    cases hs : Sg.isSign s with
    | false =>
      have HF : Hid (Nm.residR s l = none) := residR_no (fun h => by rw [hs] at h; cases h.2)
      have HO := Lib.hid h1
      clear h1
      go_enter Tryd.func18, Tryd.ntmps18
      go_wp2_with fail
      refine (levelOk_any w B A n c l T pv h0 hB hl hn hE).mono ?_
      rintro e w1 ⟨rfl, hb1⟩
      rw [HO.out]
      go_wp2_with fail
      refine (signOk_any w1 s).mono ?_
      rintro e w' ⟨rfl, rfl⟩
      rw [hs]
      go_wp2
      go_ret2
      rw [HF.out]
      exact resO_none hb1
    | true =>
      have HF : Hid (Nm.residR s l = some (Nm.rnorm (Nm.wl s l))) := residR_yes ⟨h1, hs⟩
      have HO := Lib.hid h1
      clear h1
      go_enter Tryd.func18, Tryd.ntmps18
      go_wp2_with fail
      refine (levelOk_any w B A n c l T pv h0 hB hl hn hE).mono ?_
      rintro e w1 ⟨rfl, hb1⟩
      rw [HO.out]
      go_wp2_with fail
      refine (signOk_any w1 s).mono ?_
      rintro e w' ⟨rfl, rfl⟩
      rw [hs]
      have HB1 := Lib.hid hb1
      have HRO := Lib.hid (residualOf_any w' B A n c l s T pv h0 (Nat.le_trans hB hb1.size) (hl.below (hb1.mono hB)) HO.out hs (hE.below (hb1.mono hB) h0))
      clear hb1 hs
      generalize Nm.rnorm (Nm.wl s l) = R at HF HRO
      go_wp2_with fail
      refine HRO.out.mono ?_
      rintro e w2 ⟨A2, c2, rfl, ho2, hb2⟩
      have HO2 := Lib.hid (at_base ho2 HB1.out.size)
      have HB2 := Lib.hid (HB1.out.trans (hb2.mono HB1.out.size))
      clear ho2 hb2 HRO
      obtain ⟨M, hM⟩ : ∃ M, R.length = M := ⟨_, rfl⟩
      rw [hM] at HO2 ⊢
      have HMM := Lib.hid hM
      clear hM
      go_wp2
      go_ret2
      rw [HF.out]
      exact ⟨_, _, by simp only [Option.getD_some, HMM.out]; rfl, by simp only [Option.getD_some, HMM.out]; exact HO2.out, HB2.out⟩
end Go.Proofs.YtijiohdddfdjfaaDoor

namespace Go.Proofs.YtijiohdddfdjfaaDoor
open Go.RowKit

theorem TokOwn.lt {w : World} {g n : Nat} {l : List (Int × Int)} (h : TokOwn w g n l) : g + 1 ≤ w.heap.size := by obtain ⟨_, cs, hblk, _⟩ := h; exact hblk.lt

set_option maxRecDepth 100000 in
set_option maxHeartbeats 4000000 in
theorem residualLaw_any (w : World) (B : Nat) (A0 : Option Addr) (n0 c0 : Nat) (l0 : List (Int × Int)) (x1 : Int) (T : TypeId) (pv : Value) (h0 : 0 < B) (hB : B ≤ w.heap.size)
    (hl0 : TokR w B A0 n0 l0) (hn0 : (n0 : Int) ≤ 9223372036854775807) (hE : ErrAt w T pv) :
    Calls Tryd.prog 6 #[.slice A0 n0 c0, .int .i64 x1] w fun e w' => e = .returned (.bool true) ∧ Below w.heap.size w w' := by
  by_cases hbig0 : 1048576 < (n0 : Int)
  · go_enter Tryd.func6, Tryd.ntmps6
    go_wp2_with fail
    refine (szTokS_any A0 n0 c0 (1048576) w (by omega) (by omega) hn0).mono ?_
    rintro e w' ⟨rfl, rfl⟩
    rw [if_pos (by omega)]
    go_wp2
    go_ret
    exact ⟨rfl, (Below.refl _ _)⟩
  · skip
    have hm0 : n0 ≤ 1048576 := by omega
    have hR := Nm.residR_len x1 l0
    go_enter Tryd.func6, Tryd.ntmps6
    go_wp2_with fail
    refine (szTokS_any A0 n0 c0 (1048576) w (by omega) (by omega) hn0).mono ?_
    rintro e w' ⟨rfl, rfl⟩
    rw [if_neg (by omega)]
    have hs0 : ¬ (1048576 - (n0 : Int) < 0) := by omega
    have hB0 : Below w.heap.size w w := (Below.refl _ _)
    go_wp2_with fail
    refine (toTokS_any w B A0 n0 c0 l0 (Nat.le_trans hB hB0.size) (hl0.below (hB0.mono hB)) hm0).mono ?_
    rintro e w1 ⟨rfl, hb1, p0x1⟩
    have hz1 : w.heap.size + 1 ≤ w1.heap.size := p0x1.lt
    have hB1 : Below w.heap.size w w1 := hB0.trans (hb1.mono hB0.size)
    have s1 := hb1.size
    go_wp2_with fail
    refine (specResidual_any w1 w1.heap.size (some ⟨w.heap.size, 0, none⟩) n0 n0 l0 x1 (Nat.le_refl _) (p0x1.reads.more (by omega)) (by omega)).mono ?_
    rintro e w2 ⟨Aow, cow, rfl, ow2, hb2⟩
    have iow : InR (.slice Aow ((Nm.residR x1 l0).getD []).length cow) w1.heap.size w2.heap.size := at_in ow2
    have hB2 : Below w.heap.size w w2 := hB1.trans (hb2.mono hB1.size)
    have s2 := hb2.size
    have p0x2 := p0x1.below hb2 (by omega)
    clear p0x1
    clear p0x2
    go_wp2_with fail
    refine (toTokS_any w2 B A0 n0 c0 l0 (Nat.le_trans hB hB2.size) (hl0.below (hB2.mono hB)) hm0).mono ?_
    rintro e w3 ⟨rfl, hb3, x0x3⟩
    have hz3 : w2.heap.size + 1 ≤ w3.heap.size := x0x3.lt
    have hB3 : Below w.heap.size w w3 := hB2.trans (hb3.mono hB2.size)
    have s3 := hb3.size
    have ow3 := at_below' ow2 hb3
    clear ow2
    go_wp2_with fail
    refine (implResidual_any w3 w3.heap.size (some ⟨w2.heap.size, 0, none⟩) n0 n0 l0 x1 T pv (by omega) (Nat.le_refl _) (x0x3.reads.more (by omega)) (by omega) (hE.below (hB3.mono hB) h0)).mono ?_
    rintro e w4 ⟨Aog, cog, rfl, og4, hb4⟩
    have iog : InR (.slice Aog ((Nm.residR x1 l0).getD []).length cog) w3.heap.size w4.heap.size := at_in og4
    have hB4 : Below w.heap.size w w4 := hB3.trans (hb4.mono hB3.size)
    have s4 := hb4.size
    have ow4 := at_below' ow3 hb4
    clear ow3
    have x0x4 := x0x3.below hb4 (by omega)
    clear x0x3
    have hbb : (((Nm.residR x1 l0)).isSome != ((Nm.residR x1 l0)).isSome) = false := by simp
    go_wp2_with fail
    refine (eqAtomS_any w4 w4.heap.size _ _ _ _ _ _ _ _ (Nat.le_refl _) (at_reads og4) (at_reads ow4) (by omega) (by omega)).mono ?_
    rintro e w5 ⟨rfl, hb5⟩
    rw [decide_eq_true rfl]
    have hB5 : Below w.heap.size w w5 := hB4.trans (hb5.mono hB4.size)
    have s5 := hb5.size
    have ow5 := at_below' ow4 hb5
    clear ow4
    have og5 := at_below' og4 hb5
    clear og4
    have x0x5 := x0x4.below hb5 (by omega)
    clear x0x4
    go_wp2_with fail
    refine (toTokS_any w5 B A0 n0 c0 l0 (Nat.le_trans hB hB5.size) (hl0.below (hB5.mono hB)) hm0).mono ?_
    rintro e w6 ⟨rfl, hb6, z6⟩
    have hz6 : w5.heap.size + 1 ≤ w6.heap.size := z6.lt
    have hB6 : Below w.heap.size w w6 := hB5.trans (hb6.mono hB5.size)
    have s6 := hb6.size
    have ow6 := at_below' ow5 hb6
    clear ow5
    have og6 := at_below' og5 hb6
    clear og5
    have x0x6 := x0x5.below hb6 (by omega)
    clear x0x5
    go_wp2_with fail
    refine (eqTokS_any w6 w6.heap.size _ _ n0 n0 n0 n0 l0 l0 (Nat.le_refl _) (x0x6.reads.more (by omega)) (z6.reads.more (by omega)) (by omega) (by omega)).mono ?_
    rintro e w7 ⟨rfl, hb7⟩
    rw [decide_eq_true rfl]
    clear z6
    have hB7 : Below w.heap.size w w7 := hB6.trans (hb7.mono hB6.size)
    have s7 := hb7.size
    have ow7 := at_below' ow6 hb7
    clear ow6
    have og7 := at_below' og6 hb7
    clear og6
    have x0x7 := x0x6.below hb7 (by omega)
    clear x0x6
    have hx0 := x0x7.owns hm0
    have ix0 : InR (.slice (some ⟨w2.heap.size, 0, none⟩) n0 n0) w2.heap.size (w2.heap.size + 1) := fun k hk => by have h' : w2.heap.size = k := (by simpa [Value.ownBlock] using hk); omega
    clear x0x7
    go_wp2_with fail
    refine (markTokS_any w7 _ _ n0 n0 _ hx0 (1) (by omega) (by omega)).mono ?_
    rintro e w8 ⟨rfl, hk8⟩
    have hB8 : Below w.heap.size w w8 := markBelow hB7 hk8 ix0 (by omega) hB7.size
    have ow8 := at_markKept ow7 hk8.1 ix0 iow (by omega)
    clear ow7
    have og8 := at_markKept og7 hk8.1 ix0 iog (by omega)
    clear og7
    have s8 : w7.heap.size ≤ w8.heap.size := by rw [hk8.2.1]; exact Nat.le_refl _
    clear hk8 hx0
    have hkk : ¬ (((1 + n0 * 2 : Nat) : Int) < 0) := by omega
    go_wp2_with fail
    refine (eqAtomS_any w8 w8.heap.size _ _ _ _ _ _ _ _ (Nat.le_refl _) (at_reads og8) (at_reads ow8) (by omega) (by omega)).mono ?_
    rintro e w9 ⟨rfl, hb9⟩
    rw [decide_eq_true rfl]
    have hB9 : Below w.heap.size w w9 := hB8.trans (hb9.mono hB8.size)
    have s9 := hb9.size
    have ow9 := at_below' ow8 hb9
    clear ow8
    have og9 := at_below' og8 hb9
    clear og8
    go_wp2_with fail
    refine (markAtomS_o w9 _ _ _ _ _ og9 1 (by omega) (by omega)).mono ?_
    rintro e w10 ⟨rfl, hk10⟩
    have hB10 : Below w.heap.size w w10 := at_markBelow hB9 hk10.1 iog (by omega) hB9.size
    have ow10 := at_markKept ow9 hk10.1 iog iow (by omega)
    have og10 := hk10.2.2
    have s10 : w9.heap.size ≤ w10.heap.size := by rw [hk10.2.1]; exact Nat.le_refl _
    clear hk10 ow9 og9
    go_wp2_with fail
    refine (heldAtomS_o w10 _ _ _ _ 1 og10 (by omega) (by omega)).mono ?_
    rintro e w' ⟨rfl, rfl⟩
    have hq1 : ¬ (((1 + ((Nm.residR x1 l0).getD []).length * 2 : Nat) : Int) < 0) := by omega
    have hq2 : (((1 + ((Nm.residR x1 l0).getD []).length * 2 : Nat) : Int) != ((1 + ((Nm.residR x1 l0).getD []).length * 2 : Nat) : Int)) = false := by simp
    go_wp2_with fail
    refine (toTokS_any w10 B A0 n0 c0 l0 (Nat.le_trans hB hB10.size) (hl0.below (hB10.mono hB)) hm0).mono ?_
    rintro e w11 ⟨rfl, hb11, y0x11⟩
    have hz11 : w10.heap.size + 1 ≤ w11.heap.size := y0x11.lt
    have hB11 : Below w.heap.size w w11 := hB10.trans (hb11.mono hB10.size)
    have s11 := hb11.size
    have ow11 := at_below' ow10 hb11
    clear ow10
    have og11 := at_below' og10 hb11
    clear og10
    go_wp2_with fail
    refine (implResidual_any w11 w11.heap.size (some ⟨w10.heap.size, 0, none⟩) n0 n0 l0 x1 T pv (by omega) (Nat.le_refl _) (y0x11.reads.more (by omega)) (by omega) (hE.below (hB11.mono hB) h0)).mono ?_
    rintro e w12 ⟨Aoh, coh, rfl, oh12, hb12⟩
    have ioh : InR (.slice Aoh ((Nm.residR x1 l0).getD []).length coh) w11.heap.size w12.heap.size := at_in oh12
    have hB12 : Below w.heap.size w w12 := hB11.trans (hb12.mono hB11.size)
    have s12 := hb12.size
    have ow12 := at_below' ow11 hb12
    clear ow11
    have og12 := at_below' og11 hb12
    clear og11
    have y0x12 := y0x11.below hb12 (by omega)
    clear y0x11
    clear y0x12
    go_wp2_with fail
    refine (eqAtomS_any w12 w12.heap.size _ _ _ _ _ _ _ _ (Nat.le_refl _) (at_reads oh12) (at_reads ow12) (by omega) (by omega)).mono ?_
    rintro e w13 ⟨rfl, hb13⟩
    rw [decide_eq_true rfl]
    have hB13 : Below w.heap.size w w13 := hB12.trans (hb13.mono hB12.size)
    have s13 := hb13.size
    have ow13 := at_below' ow12 hb13
    clear ow12
    have og13 := at_below' og12 hb13
    clear og12
    have oh13 := at_below' oh12 hb13
    clear oh12
    go_wp2_with fail
    refine (heldAtomS_o w13 _ _ _ _ 1 og13 (by omega) (by omega)).mono ?_
    rintro e w' ⟨rfl, rfl⟩
    go_wp2
    go_ret
    exact ⟨rfl, hB13⟩
end Go.Proofs.YtijiohdddfdjfaaDoor
