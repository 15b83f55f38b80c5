/- ArenaKeep of the program: the walk. -/
/- The law FnKeep: the walk. -/
import Derived.Test.YtfmhmnpmdjpmeaaDoorNdKpI
import Derived.Test.YtfmhmnpmdjpmeaaDoorKpMath
import Derived.Test.YtfmhmnpmdjpmeaaDoorAvI
import Derived.Test.YtfmhmnpmdjpmeaaDoorNdPtI

namespace Go.Proofs.YtfmhmnpmdjpmeaaDoor
open Go.RowKit Go.Maps

theorem ArO.num {w : World} {base g m n c gb i : Nat} {A : Option Addr} {D : DataW Unit} {l : List Nd} {cs : Array Value} (h : ArO w base g m A n c D l) (hb : Blk w gb 3 cs) (v : Value) : ArO (w.setCell ⟨gb, i, none⟩ v) base g m A n c D l :=
  ⟨h.bg, h.bm, h.box.other (p := ⟨gb, i, none⟩) (h.box.apart hb (by decide)) v, own_store h.row (p := ⟨gb, i, none⟩) (own_apart h.row hb (by decide)) v, h.map.setCell (a := ⟨gb, i, none⟩) (fun x => map_apart h.map hb x.symm) v, h.gn⟩
theorem ArK.num {w : World} {base g m n c gb i : Nat} {A : Option Addr} {D : DataW Unit} {l : List Nd} {cs : Array Value} (h : ArK w base g m A n c D l) (hb : Blk w gb 3 cs) (v : Value) : ArK (w.setCell ⟨gb, i, none⟩ v) base g m A n c D l :=
  ⟨h.box.other (p := ⟨gb, i, none⟩) (h.box.apart hb (by decide)) v, own_store h.row (p := ⟨gb, i, none⟩) (own_apart h.row hb (by decide)) v, h.map.setCell (a := ⟨gb, i, none⟩) (fun x => map_apart h.map hb x.symm) v⟩
theorem fold_bits (is : List Int) : ∀ (f : Nat → Bool) (i : Nat), (is.foldl bit1 f) i = (f i || is.any fun x => decide ((i : Int) = x)) := by
  induction is with
  | nil => intro f i; simp
  | cons x is ih =>
    intro f i
    rw [List.foldl_cons, ih, List.any_cons]
    unfold bit1
    rw [Bool.or_assoc]
theorem root_in {l : List Nd} {n p : Nat} {is : List Int} (h : (p : Int) ∈ is) : needD l n (is.foldl bit1 fun _ => false) n p = true := by
  refine needD_keeps (c := 0) (Nat.zero_le _) ?_
  show (is.foldl bit1 fun _ => false) p = true
  rw [fold_bits]
  simp only [Bool.false_or, List.any_eq_true, decide_eq_true_eq]
  exact ⟨_, h, rfl⟩
/-- what ArenaKeep answers -/
def KeepOut (w : World) (ok : Bool) (N : List Nd) (I : List Int) (e : Ending) (w' : World) : Prop :=
  ∃ A1 c1 A3 c3, e = .returned (.tuple #[.slice A1 N.length c1, .slice A3 I.length c3, .bool ok]) ∧ OwnN w' w.heap.size A1 N.length c1 N ∧ OwnI w' w.heap.size A3 I.length c3 I ∧ Below w.heap.size w w'
/-- what the roots need -/
abbrev rootsR (l : List Nd) (n : Nat) (is : List Int) : Nat → Bool := needD l n (is.foldl bit1 fun _ => false) n
def keepN (l : List Nd) (n : Nat) (is : List Int) : List Nd := if (arenaOkR l && idxR n is) = true then leftN l (rootsR l n is) n else []
def keepI (l : List Nd) (n : Nat) (is : List Int) : List Int := if (arenaOkR l && idxR n is) = true then is.map fun r => ((cntK (rootsR l n is) r.toNat : Nat) : Int) else []

set_option maxRecDepth 100000 in
set_option maxHeartbeats 8000000 in
theorem implKeep_any (w : World) (B : Nat) (A : Option Addr) (n c : Nat) (l : List Nd) (B2 : Nat) (A2 : Option Addr) (n2 c2 : Nat) (is : List Int) (hB : B ≤ w.heap.size) (hl : NodR w B A n l) (hn : n ≤ 1048576) (hB2 : B2 ≤ w.heap.size) (his : IntR w B2 A2 n2 is) (hn2 : n2 ≤ 1048576) :
    Calls Tryd.prog 40 #[.slice A n c, .slice A2 n2 c2] w (KeepOut w (arenaOkR l && idxR n is) (keepN l n is) (keepI l n is)) := by
  have hlen := hl.1
  go_enter Tryd.func40, Tryd.ntmps40
  go_wp2_with fail
  refine (arenaWith_any w B B2 A A2 n c n2 c2 l is hB hB2 hl his hn hn2).mono ?_
  rintro e w1 ⟨rfl, hb1, hA⟩
  have HB1 := Lib.hid hb1
  have HIS := Lib.hid his
  clear hl his
  cases hok : (arenaOkR l && idxR n is) with
  | false =>
    have HP : Hid (keepN l n is = []) := by show _ = _; unfold keepN; rw [if_neg (by rw [hok]; decide)]
    have HP2 : Hid (keepI l n is = []) := by show _ = _; unfold keepI; rw [if_neg (by rw [hok]; decide)]
    have HN : Hid (OwnN w1 w.heap.size none 0 0 []) := World.ownsRow_nil _ _ _ _
    have HN2 : Hid (OwnI w1 w.heap.size none 0 0 []) := World.ownsRow_nil _ _ _ _
    clear hA hb1
    unfold awV
    go_wp2
    go_ret3
    rw [HP.out, HP2.out, hok]
    exact ⟨none, 0, none, 0, rfl, HN.out, HN2.out, HB1.out⟩
  | true =>
    obtain ⟨A', c', D', hA1⟩ := hA hok
    have HPN : Hid (keepN l n is = leftN l (rootsR l n is) n) := by show _ = _; unfold keepN; rw [if_pos hok]
    have HPI : Hid (keepI l n is = is.map fun r => ((cntK (rootsR l n is) r.toNat : Nat) : Int)) := by show _ = _; unfold keepI; rw [if_pos hok]
    have HOKK := Lib.hid hok
    rw [Bool.and_eq_true] at hok
    obtain ⟨ha, hix⟩ := hok
    unfold arenaOkR at ha
    rw [Bool.and_eq_true, decide_eq_true_eq, decide_eq_true_eq, hlen] at ha
    obtain ⟨hn3, hall⟩ := ha
    have HALL := Lib.hid hall
    have HIX := Lib.hid hix
    have hs1 := hb1.size
    unfold awV
    go_wp2_with fail
    refine (keep_any w1 w.heap.size (w.heap.size + 1) w.heap.size A' n c' D' l B2 A2 n2 c2 is hA1 hall hn3 hs1 (Nat.le_trans hB2 hs1) (HIS.out.below (hb1.mono hB2)) hn2 hix).mono ?_
    rintro e w2 ⟨rfl, hb2, D2, hK2, hT2⟩
    have hB02 : Below w.heap.size w w2 := hb1.trans hb2
    have HB2 := Lib.hid hB02
    have hT : ∀ j, j < n → Maps.has D2 (nk (l.getD j nd0)) = rootsR l n is j := by
      intro j hj
      have h := hT2 j hj
      rw [if_neg (by omega), Nat.sub_zero] at h
      exact h
    have HT := Lib.hid hT
    have hs2 := hB02.size
    clear hA hA1 hall hix hb1 hb2 hT2 hT HB1
    go_wp2_with fail
    refine (newArena_any w2).mono ?_
    rintro e w3 ⟨rfl, hb3, hA3⟩
    have hmk := make_ints n (by omega)
    rw [ints_made] at hmk
    have hg3 := hA3.box.lt
    have hb4 : Below w3.heap.size w3 (w3.alloc (.cells (intA (fun _ => 0) n) 3)) := (Below.refl _ _).alloc (Nat.le_refl _) _
    obtain ⟨w4, hw4⟩ : ∃ X, w3.alloc (.cells (intA (fun _ => 0) n) 3) = X := ⟨_, rfl⟩
    have hblk4 : Blk w4 w3.heap.size 3 (intA (fun _ => 0) n) := by rw [← hw4]; exact Blk.made _ _ _
    rw [hw4] at hb4
    have hB24 : Below w2.heap.size w2 w4 := hb3.trans (hb4.mono hb3.size)
    have hK4 := hK2.below hB24
    have hA4 := hA3.below hb4
    have HB4 := Lib.hid (hB02.trans (hB24.mono hs2))
    have HK4 := Lib.hid hK4
    have HA4 := Lib.hid hA4
    have HBLK4 := Lib.hid hblk4
    have HROW : Hid (∀ b, (Value.slice A' n c').ownBlock = some b → b < w2.heap.size) := fun b h => (hK2.row.lt b h).2
    have HK2 := Lib.hid hK2
    have HSZ : Hid (w.heap.size + 1 < w2.heap.size) := hK2.box.lt
    have HW4 := Lib.hid hw4
    have hs4 : w3.heap.size < w4.heap.size := hblk4.lt
    clear hb3 hA3 hb4 hblk4 hB24 hK4 hA4 hB02 hK2 hw4
    go_wp2_with fail
    rw [HW4.out]
    refine (kept_any w4 w.heap.size (w.heap.size + 1) w.heap.size A' n c' D2 l (rootsR l n is) HK4.out HALL.out hn3 HT.out).mono ?_
    rintro e w5 ⟨A5, c5, rfl, ho5, hb5⟩
    obtain ⟨M, hM⟩ : ∃ M, (pickTo (rootsR l n is) n).length = M := ⟨_, rfl⟩
    obtain ⟨R, hR⟩ : ∃ R, rootsR l n is = R := ⟨_, rfl⟩
    have hRR : R = needD l n (is.foldl bit1 fun _ => false) n := hR.symm
    have HRR := Lib.hid hRR
    rw [hM] at ho5
    rw [hM]
    rw [hR] at ho5 hM HT HPN HPI
    have HM := Lib.hid hM
    have hMn : M ≤ n := by rw [← hM]; exact pickTo_len R n
    have HO5 : Hid (OwnI w5 (w3.heap.size + 1) A5 M c5 (pickTo R n)) := own_base ho5 hs4
    have HK5 := Lib.hid (HK4.out.below hb5)
    have HA5 : Hid (ArO w5 w2.heap.size (w2.heap.size + 1) w2.heap.size none 0 0 (.map []) ((leftN l R n).take 0)) := HA4.out.below hb5
    have HG5 : Hid (Blk w5 w3.heap.size 3 (intA (fun _ => 0) n)) := HBLK4.out.below hb5 hs4
    have HB5 := Lib.hid (HB4.out.trans (hb5.mono HB4.out.size))
    have hs5 : w3.heap.size < w5.heap.size := HG5.out.lt
    clear ho5 hb5 hR hRR hM HK4 HA4 HBLK4 HB4 HW4 HK2 HT hmk hs4
    obtain ⟨ws, hws⟩ : ∃ X, X = w5 := ⟨_, rfl⟩
    subst hws
    go_wp2
    go_loopw [34] (fun v wr => ∃ (q : Nat) (f : Nat → Int) (A6 : Option Addr) (c6 : Nat) (D6 : DataW Unit), q ≤ M ∧ v = .int .i64 q ∧ Hid (∀ j, j < n → R j = true → cntK R j < q → f j = (cntK R j : Nat)) ∧ Hid (OwnI wr (w3.heap.size + 1) A5 M c5 (pickTo R n)) ∧ Hid (ArK wr w.heap.size (w.heap.size + 1) w.heap.size A' n c' D2 l) ∧ Hid (ArO wr w2.heap.size (w2.heap.size + 1) w2.heap.size A6 q c6 D6 ((leftN l R n).take q)) ∧ Hid (Blk wr w3.heap.size 3 (intA f n)) ∧ Hid (Below w.heap.size w wr) ∧ w3.heap.size < wr.heap.size) (fun v _ => M - (intOf v).toNat)
    case atStart => exact ⟨0, fun _ => 0, none, 0, .map [], Nat.zero_le _, rfl, (fun j _ _ h => absurd h (by omega)), HO5.out, HK5.out, HA5.out, HG5.out, HB5.out, hs5⟩
    case round =>
      clear HO5 HK5 HA5 HG5 HB5 hs5
      obtain ⟨q, f, A6, c6, D6, hq, rfl, HF, HO, HK, HA, HG, HB, hsr⟩ := hrel
      by_cases hlt : q < M
      · obtain ⟨i, hi, hRi, hci, hpi⟩ := pickTo_at (R := R) (n := n) (q := q) (by rw [HM.out]; exact hlt)
        obtain ⟨b5, off5, hA5', hb5, hc5⟩ := (OwnI.reads HO.out).2 (by omega)
        subst hA5'
        have z1 := hc5 q hlt
        rw [hpi] at z1
        obtain ⟨b1, off1, hA1', hb1, hc1⟩ := (OwnN.reads HK.out.row).2 (by omega)
        subst hA1'
        obtain ⟨x1, x2, x3, x4⟩ := hc1 i hi
        have hok := (HALL.out i hi).1
        have hne := leftN_new (q := q) hlen HALL.out hi (by rw [← HRR.out]; exact hRi) (by rw [← HRR.out]; exact hci)
        have hnw := newNd_wf (R := R) HALL.out hn3 hi
        rw [← HRR.out] at hne
        have hclo := need_closed (f := is.foldl bit1 fun _ => false) HALL.out hi (by rw [← HRR.out]; exact hRi)
        rw [← HRR.out] at hclo
        have htk := leftN_take (l := l) (R := R) (n := n) (q := q) (i := i) (by rw [HM.out]; exact hlt) hpi
        obtain ⟨t, ht⟩ : ∃ t, l.getD i nd0 = t := ⟨_, rfl⟩
        rw [ht] at x1 x2 x3 x4 hok hne hnw hclo htk
        obtain ⟨o, u, a, y⟩ := t
        obtain ⟨hp1, hp2⟩ := ndOk_ops hok
        have hin : (i : Int) < n := by omega
        have k0 := HK.out.box.cell 0
        simp at k0
        have hga : 0 ≤ a → f a.toNat = (cntK R a.toNat : Nat) := fun h0 => HF.out _ (by omega) (hclo.1 h0) (by rw [← hci]; exact cntK_lt (by omega) (hclo.1 h0))
        have hgy : 0 ≤ y → f y.toNat = (cntK R y.toNat : Nat) := fun h0 => HF.out _ (by omega) (hclo.2 h0) (by rw [← hci]; exact cntK_lt (by omega) (hclo.2 h0))
        have hread := intA_reads HG.out
        have hmv := mvR_new (R := R) (is := (List.range n).map f) hok (fun h0 => by rw [intL_at (by omega)]; exact hga h0) (fun h0 => by rw [intL_at (by omega)]; exact hgy h0)
        have hta : tkA o = true → 0 ≤ a ∧ a < n := by
          intro h
          unfold ndOk at hok
          rw [Bool.and_eq_true, Bool.and_eq_true] at hok
          have h2 := hok.1.2
          unfold opdB at h2
          rw [if_pos h] at h2
          simp at h2
          omega
        have hty : tkB o = true → 0 ≤ y ∧ y < n := by
          intro h
          unfold ndOk at hok
          rw [Bool.and_eq_true, Bool.and_eq_true] at hok
          have h2 := hok.2
          unfold opdB at h2
          rw [if_pos h] at h2
          simp at h2
          omega
        have HMV := Lib.hid hmv
        have HNE := Lib.hid hne
        have HNW := Lib.hid hnw
        have HTK := Lib.hid htk
        have HCI := Lib.hid hci
        have HRI := Lib.hid hRi
        have HB1S : Hid (w.heap.size + 1 < w2.heap.size) := HSZ.out
        clear hmv hne hnw htk hclo hga hgy hok hc5 hc1 ht hpi hRi
        go_wp2_with fail
        refine (moved_any wr (w3.heap.size + 1) (some ⟨w3.heap.size, 0, none⟩) n n ((List.range n).map f) o u a y (by omega) hread hta hty hn).mono ?_
        rintro e w6 ⟨rfl, hb6⟩
        have hbw6 := HB.out.trans (hb6.mono HB.out.size)
        have hs6 := hb6.size
        have hK6 := HK.out.below hb6
        have hA6 := HA.out.below hb6
        have hG6 := HG.out.below hb6 hsr
        have hO6 := own_below' HO.out hb6
        rw [HMV.out.1, HMV.out.2]
        have hw2 : w2.heap.size ≤ w6.heap.size := by omega
        go_wp2_with fail
        refine (index_new w6 w2.heap.size (w2.heap.size + 1) w2.heap.size A6 q c6 D6 _ o u (newOp R a) (newOp R y) hA6 HNW.out HNE.out (by omega) hw2).mono ?_
        rintro e w7 ⟨rfl, hb7, ⟨A7, c7, D7, hA7⟩, hfr⟩
        have hrow6 : ∀ b, (Value.slice A6 q c6).ownBlock = some b → w2.heap.size ≤ b := fun b h => (hA6.row.lt b h).1
        have hK7 : ArK w7 w.heap.size (w.heap.size + 1) w.heap.size (some ⟨b1, off1, none⟩) n c' D2 l := by
          have hlow : ∀ b, b < w2.heap.size → w7.heap[b]? = w6.heap[b]? := fun b hb => hb7.block b hb
          have hg1 := HB1S.out
          exact hK6.stay (hlow _ (by omega)) (hlow _ (by omega)) (fun b h => hlow _ (HROW.out b h))
        have hG7 : Blk w7 w3.heap.size 3 (intA f n) := (hfr _ (by omega) (by omega) (by omega) (own_apart hA6.row hG6 (by decide))).trans hG6
        have hO7 : OwnI w7 (w3.heap.size + 1) (some ⟨b5, off5, none⟩) M c5 (pickTo R n) := own_stay hO6 (fun b h => by
          obtain ⟨cs, hcs⟩ := own_blk hO6 b h
          exact hfr b hcs.lt (fun e => (hA6.box.apart hcs (by decide)) e.symm) (fun e => map_apart hA6.map hcs e) (fun e => own_apart hA6.row hcs (by decide) e))
        have hB7 : Below w.heap.size w w7 := hbw6.trans (hb7.mono hs2)
        have fz := hG7.thawed i
        have ez : w7.cell? ⟨w3.heap.size, i, none⟩ = some (.int .i64 (f i)) := (hG7.cell i).trans (intA_get _ hi)
        have HG8 : Hid (Blk (w7.setCell ⟨w3.heap.size, i, none⟩ (.int .i64 (q : Int))) w3.heap.size 3 (intA (setI f i q) n)) := by
          show Blk _ _ _ _
          have h := hG7.put i (.int .i64 (q : Int))
          rw [intA_set] at h
          exact h
        have HK8 := Lib.hid (hK7.num (i := i) hG7 (.int .i64 (q : Int)))
        have HA8 : Hid (ArO (w7.setCell ⟨w3.heap.size, i, none⟩ (.int .i64 (q : Int))) w2.heap.size (w2.heap.size + 1) w2.heap.size A7 (q + 1) c7 D7 ((leftN l R n).take (q + 1))) := by
          show ArO _ _ _ _ _ _ _ _ _
          rw [HTK.out]
          exact hA7.num hG7 _
        have HO8 : Hid (OwnI (w7.setCell ⟨w3.heap.size, i, none⟩ (.int .i64 (q : Int))) (w3.heap.size + 1) (some ⟨b5, off5, none⟩) M c5 (pickTo R n)) := own_store hO7 (p := ⟨w3.heap.size, i, none⟩) (by have h := (hO7.lt b5 rfl).1; simp [Value.ownBlock]; omega) _
        have HB8 : Hid (Below w.heap.size w (w7.setCell ⟨w3.heap.size, i, none⟩ (.int .i64 (q : Int)))) := Below.setCell hB7 (p := ⟨w3.heap.size, i, none⟩) (by show w.heap.size ≤ w3.heap.size; omega) _
        have HF8 : Hid (∀ j, j < n → R j = true → cntK R j < q + 1 → setI f i q j = (cntK R j : Nat)) := by
          intro j hj hRj hcj
          unfold setI
          by_cases e : j = i
          · subst e; rw [if_pos rfl, HCI.out]
          · rw [if_neg e]
            by_cases e2 : cntK R j < q
            · exact HF.out j hj hRj e2
            · exact absurd (cntK_inj hRj HRI.out (by have := HCI.out; omega)) e
        have hs8 : w3.heap.size < (w7.setCell ⟨w3.heap.size, i, none⟩ (.int .i64 (q : Int))).heap.size := HG8.out.lt
        clear hb6 hbw6 hs6 hK6 hA6 hG6 hO6 hb7 hA7 hfr hrow6 hK7 hG7 hO7 hB7 hread HG HK HA HO HB HF HMV HNE HNW HTK HCI z1 x1 x2 x3 x4 k0 hsr
        go_wp2
        go_roundw
        case rel => exact ⟨q + 1, setI f i q, A7, c7, D7, by omega, by go_num, HF8.out, HO8.out, HK8.out, HA8.out, HG8.out, HB8.out, hs8⟩
        case measure => simp [intOf]; omega
      · obtain rfl : q = M := by omega
        have HA2 : Hid (ArO wr w2.heap.size (w2.heap.size + 1) w2.heap.size A6 q c6 D6 (leftN l R n)) := by
          have h := HA.out
          rwa [List.take_of_length_le (by rw [leftN_len, HM.out]; exact Nat.le_refl _)] at h
        have HIS2 : Hid (IntR wr B2 A2 n2 is) := HIS.out.below (HB.out.mono hB2)
        have HF2 : Hid (∀ p : Nat, (p : Int) ∈ is → p < n → f p = (cntK R p : Nat)) := by
          intro p hp hpn
          have hRp : R p = true := by rw [HRR.out]; exact root_in hp
          refine HF.out p hpn hRp ?_
          have h := cntK_lt hpn hRp
          have e : cntK R n = q := HM.out
          omega
        clear HA HF HK HO HIS
        obtain ⟨wt, hwt⟩ : ∃ X, X = wr := ⟨_, rfl⟩
        subst hwt
        have HS9 : Hid (OwnI wt wt.heap.size none 0 0 ((is.take 0).map fun r => ((cntK R r.toNat : Nat) : Int))) := World.ownsRow_nil _ _ _ _
        obtain ⟨i0, ii, iz0, iz1, iz2⟩ := info_parts info_int
        go_wp2
        go_loopw [13, 55] (fun v i wz => ∃ (p : Nat) (A9 : Option Addr) (c9 : Nat), p ≤ n2 ∧ i = .int .i64 p ∧ v = .slice A9 p c9 ∧ Hid (OwnI wz wt.heap.size A9 p c9 ((is.take p).map fun r => ((cntK R r.toNat : Nat) : Int))) ∧ Hid (Below wt.heap.size wt wz)) (fun _ i _ => n2 - (intOf i).toNat)
        case atStart => exact ⟨0, none, 0, Nat.zero_le _, rfl, rfl, HS9.out, Below.refl _ _⟩
        case round =>
          clear HS9
          obtain ⟨p, A9, c9, hp, rfl, rfl, HO9, HB9⟩ := hrel
          by_cases hlt : p < n2
          · obtain ⟨b3, off3, hA3', hb3, hc3⟩ := HIS2.out.2 (by omega)
            subst hA3'
            have z1 := hc3 p hlt
            have hpl : p < is.length := by rw [HIS2.out.1]; exact hlt
            obtain ⟨h0, h1⟩ := idx_at HIX.out hpl
            have hmem : is.getD p 0 ∈ is := by
              rw [List.getD_eq_getElem?_getD, List.getElem?_eq_getElem hpl]
              simp
            have htk : (is.take (p + 1)).map (fun r => ((cntK R r.toNat : Nat) : Int)) = (is.take p).map (fun r => ((cntK R r.toNat : Nat) : Int)) ++ [((cntK R (is.getD p 0).toNat : Nat) : Int)] := by
              rw [List.take_add_one, List.getElem?_eq_getElem hpl, List.map_append]
              simp [List.getD_eq_getElem?_getD, hpl]
            obtain ⟨x, hx⟩ : ∃ x, is.getD p 0 = x := ⟨_, rfl⟩
            rw [hx] at z1 h0 h1 hmem htk
            obtain ⟨j, rfl⟩ : ∃ j : Nat, x = j := ⟨x.toNat, by omega⟩
            have hjn : j < n := by omega
            have hfj := HF2.out j hmem hjn
            rw [Int.toNat_natCast] at htk
            have hszz := HB9.out.size
            have k1 := (HB9.out.cell (p := ⟨b3, off3 + p, none⟩) (by show b3 < _; have := HB.out.size; omega)).trans z1
            have k2 : wr.cell? ⟨w3.heap.size, j, none⟩ = some (.int .i64 ((cntK R j : Nat) : Int)) := by
              rw [← hfj]
              exact ((HG.out.below HB9.out hsr).cell j).trans (intA_get _ hjn)
            have HTK := Lib.hid htk
            obtain ⟨y, hy⟩ : ∃ y : Nat, cntK R j = y := ⟨_, rfl⟩
            rw [hy] at k2 HTK
            have hown := HO9.out
            clear z1 hx hmem htk hfj hc3 hy
            go_wp2_with (at_builtin; refine wpList_append_own _ rfl (.tmp 59) (.tmp 64) 40 rfl wt.heap.size 3 i0 (.int .i64 0) 1 8 Tryd.underlying40 ii iz0 iz1 iz2 rfl (by decide) (.slice A9 p c9) p (((is.take p).map fun r => ((cntK R r.toNat : Nat) : Int)).map (Value.int .i64)) rfl (World.ownsRow.alloc hown _) ⟨wr.heap.size, 0, none⟩ 1 1 [.int .i64 y] rfl rfl (cell_one_new _ _ _) (fun u hu => by simp at hu; subst hu; rfl) (by unfold maxLen; omega) (by omega) (by simp; omega) ?_; intro v' wq hown' hgrow _)
            obtain ⟨g4, c4, rfl⟩ : ∃ g4 c4, v' = .slice (some ⟨g4, 0, none⟩) (p + 1) c4 := by
              rcases hown'.2 with ⟨_, h⟩ | ⟨g4, c4, _, h, _⟩
              · omega
              · exact ⟨g4, c4, h⟩
            have HB4 : Hid (Below wt.heap.size wt wq) := (HB9.out.alloc hszz _).grown hgrow (by simp; omega) (fun k h => (hown.lt k h).1)
            have HO4 : Hid (OwnI wq wt.heap.size (some ⟨g4, 0, none⟩) (p + 1) c4 ((is.take (p + 1)).map fun r => ((cntK R r.toNat : Nat) : Int))) := by
              show OwnI _ _ _ _ _ _
              rw [HTK.out]
              simpa [OwnI] using hown'
            clear hown hown' hgrow HO9 HB9 HTK k1 k2
            go_wp2
            go_roundw
            case rel => exact ⟨p + 1, some ⟨g4, 0, none⟩, c4, by omega, by go_num, rfl, HO4.out, HB4.out⟩
            case measure => simp [intOf]; omega
          · obtain rfl : p = n2 := by omega
            have HA9 := Lib.hid (HA2.out.below HB9.out)
            have k0 := HA9.out.box.cell 0
            simp at k0
            have hwr := HB.out.size
            have HON : Hid (OwnN wr w.heap.size A6 q c6 (leftN l R n)) := own_base HA9.out.row hs2
            have HOI : Hid (OwnI wr w.heap.size A9 p c9 (is.map fun r => ((cntK R r.toNat : Nat) : Int))) := by
              have h := HO9.out
              rw [List.take_of_length_le (by rw [HIS2.out.1]; exact Nat.le_refl _)] at h
              exact own_base h hwr
            have HBZ : Hid (Below w.heap.size w wr) := HB.out.trans (HB9.out.mono hwr)
            have HL1 : Hid ((leftN l R n).length = q) := by show _ = _; rw [leftN_len, HM.out]
            have HL2 : Hid ((is.map fun r => ((cntK R r.toNat : Nat) : Int)).length = p) := by show _ = _; rw [List.length_map, HIS2.out.1]
            go_wp2
            go_ret3
            rw [HPN.out, HPI.out, HOKK.out]
            refine ⟨A6, c6, A9, c9, ?_, ?_, ?_, HBZ.out⟩
            · rw [HL1.out, HL2.out]; rfl
            · rw [HL1.out]; exact HON.out
            · rw [HL2.out]; exact HOI.out
end Go.Proofs.YtfmhmnpmdjpmeaaDoor

namespace Go.Proofs.YtfmhmnpmdjpmeaaDoor
open Go.RowKit

set_option maxRecDepth 100000 in
set_option maxHeartbeats 1600000 in
theorem sameNodes_any (w : World) (B : Nat) (A1 A2 : Option Addr) (n c1 c2 : Nat) (l : List Nd) (hB : B ≤ w.heap.size) (h1 : NodR w B A1 n l) (h2 : NodR w B A2 n l) (hn : n ≤ 1048576) :
    Calls Tryd.prog 31 #[.slice A1 n c1, .slice A2 n c2] w fun e w' => e = .returned (.bool true) ∧ Below w.heap.size w w' := by
  have en : ((n : Int) != (n : Int)) = false := by simp
  go_enter Tryd.func31, Tryd.ntmps31
  go_wp2
  go_loopw [5] (fun i wr => ∃ k : Nat, k ≤ n ∧ i = .int .i64 k ∧ Below w.heap.size w wr) (fun i _ => n - (intOf i).toNat)
  case atStart => exact ⟨0, Nat.zero_le _, rfl, Below.refl _ _⟩
  case round =>
    obtain ⟨k, hk, rfl, hbel⟩ := hrel
    by_cases hlt : k < n
    · obtain ⟨b, off, rfl, hb, hc⟩ := h1.2 (by omega)
      obtain ⟨x1, x2, x3, x4⟩ := hc k hlt
      obtain ⟨b', off', rfl, hb', hc'⟩ := h2.2 (by omega)
      obtain ⟨y1, y2, y3, y4⟩ := hc' k hlt
      obtain ⟨t, ht⟩ : ∃ t, l.getD k nd0 = t := ⟨_, rfl⟩
      rw [ht] at x1 x2 x3 x4 y1 y2 y3 y4
      obtain ⟨o, u, a, z⟩ := t
      have k1 := (hbel.cell (p := ⟨b, off + k * 4, none⟩) (by show b < _; omega)).trans x1
      have k2 := (hbel.cell (p := ⟨b, off + k * 4 + 1, none⟩) (by show b < _; omega)).trans x2
      have k3 := (hbel.cell (p := ⟨b, off + k * 4 + 2, none⟩) (by show b < _; omega)).trans x3
      have k4 := (hbel.cell (p := ⟨b, off + k * 4 + 3, none⟩) (by show b < _; omega)).trans x4
      have m1 := (hbel.cell (p := ⟨b', off' + k * 4, none⟩) (by show b' < _; omega)).trans y1
      have m2 := (hbel.cell (p := ⟨b', off' + k * 4 + 1, none⟩) (by show b' < _; omega)).trans y2
      have m3 := (hbel.cell (p := ⟨b', off' + k * 4 + 2, none⟩) (by show b' < _; omega)).trans y3
      have m4 := (hbel.cell (p := ⟨b', off' + k * 4 + 3, none⟩) (by show b' < _; omega)).trans y4
      have HBD := Lib.hid hbel.drew
      clear x1 x2 x3 x4 y1 y2 y3 y4 hc hc' ht h1 h2 hbel
      go_wp2_with fail
      refine region_tail 8 (by kernel_rfl) (by kernel_rfl) ?_
      simp only [List.take_succ_cons, List.take_zero, List.drop_succ_cons, List.drop_zero]
      repeat still_step
      refine wpStill_nil ?_
      go_wp2
      go_roundw
      case rel => exact ⟨k + 1, by omega, by go_num, HBD.out⟩
      case measure => simp [intOf]; omega
    · obtain rfl : k = n := by omega
      go_wp2
      go_ret
      exact ⟨rfl, hbel⟩
theorem aevR_some {l : List Nd} {n i : Nat} {env : List Int} (ha : arenaOkR l = true) (hi : i < n) (he : envOk env = true) : aevR l n (i : Int) env = some (avN env l i) := by
  unfold aevR
  rw [if_pos (by rw [ha, he, idx_one, decide_eq_true (by omega), decide_eq_true (by omega)]; rfl), Int.toNat_natCast]
  rfl
/-- what is kept: an arena, no longer, with a place for each root that has the root's values -/
theorem keep_facts {l : List Nd} {m : Nat} {is : List Int} (hl : l.length = m) (hok : (arenaOkR l && idxR m is) = true) :
    arenaOkR (keepN l m is) = true ∧ (keepN l m is).length ≤ m ∧ (keepI l m is).length = is.length ∧
      ∀ env, envOk env = true → ∀ k, k < is.length → ∃ V, aevR l m (is.getD k 0) env = some V ∧ aevR (keepN l m is) (keepN l m is).length ((keepI l m is).getD k 0) env = some V := by
  have hN : keepN l m is = leftN l (rootsR l m is) m := by unfold keepN; rw [if_pos hok]
  have hI : keepI l m is = is.map fun r => ((cntK (rootsR l m is) r.toNat : Nat) : Int) := by unfold keepI; rw [if_pos hok]
  rw [hN, hI]
  rw [Bool.and_eq_true] at hok
  obtain ⟨ha, hix⟩ := hok
  have ha' := ha
  unfold arenaOkR at ha'
  rw [Bool.and_eq_true, decide_eq_true_eq, decide_eq_true_eq, hl] at ha'
  obtain ⟨hn, hall⟩ := ha'
  obtain ⟨_, k2, k3⟩ := kp_arena (f := is.foldl bit1 fun _ => false) hl hn hall
  refine ⟨k2, k3, by simp, fun env he k hk => ?_⟩
  have hmem : is.getD k 0 ∈ is := by
    rw [List.getD_eq_getElem?_getD, List.getElem?_eq_getElem hk]
    exact List.getElem_mem hk
  have hb : 0 ≤ is.getD k 0 ∧ is.getD k 0 < m := by
    unfold idxR at hix
    rw [List.all_eq_true] at hix
    simpa using hix _ hmem
  obtain ⟨i, hi⟩ : ∃ i : Nat, is.getD k 0 = i := ⟨(is.getD k 0).toNat, by omega⟩
  rw [hi] at hmem hb ⊢
  have hr : rootsR l m is i = true := root_in hmem
  have hat : (is.map fun r => ((cntK (rootsR l m is) r.toNat : Nat) : Int)).getD k 0 = ((cntK (rootsR l m is) i : Nat) : Int) := by
    rw [List.getD_eq_getElem?_getD, List.getElem?_map, List.getElem?_eq_getElem hk]
    rw [List.getD_eq_getElem?_getD, List.getElem?_eq_getElem hk] at hi
    simp only [Option.getD_some] at hi
    simp [hi]
  rw [hat]
  have hin : i < m := by omega
  exact ⟨_, aevR_some ha hin he, by rw [aevR_some k2 (kp_at l hin hr).2 he, kp_av env hall i hin hr]⟩

end Go.Proofs.YtfmhmnpmdjpmeaaDoor
