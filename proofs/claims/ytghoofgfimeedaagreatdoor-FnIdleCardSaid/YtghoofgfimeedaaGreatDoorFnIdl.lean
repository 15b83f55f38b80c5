/- The draw of a level that may have an idle parameter; the law FnIdle: the walk. -/
import Derived.Test.YtghoofgfimeedaaGreatDoorDTrim
import Derived.Test.YtghoofgfimeedaaGreatDoorDCsp
import Derived.Test.YtghoofgfimeedaaGreatDoorDLe
import Derived.Test.YtghoofgfimeedaaGreatDoorSameT
import Derived.Test.YtghoofgfimeedaaGreatDoorDraw6

namespace Go.Proofs.YtghoofgfimeedaaGreatDoor
open Go.RowKit

/-- a row of tokens of the call's own -/
def One (base : Nat) (e : Ending) (w' : World) : Prop := ∃ A1 n1 c1 l1, e = .returned (.slice A1 n1 c1) ∧ n1 ≤ 25 ∧ OwnT w' base A1 n1 c1 l1

set_option maxRecDepth 100000 in
set_option maxHeartbeats 4000000 in
theorem idleLevel_any (w : World) (bc : Nat) (A : Option Addr) (n c K : Nat) (hc : Cur w bc A n c K) (hK : K ≤ 600000) (hn : n ≤ 1048576) :
    Calls Tryz.prog 16 #[.pointer (some ⟨bc, 0, none⟩)] w fun e w' => One w.heap.size e w' ∧ Kp bc w w' := by
  have hlt := hc.lt
  go_enter Tryz.func16, Tryz.ntmps16
  go_wp2_with fail
  refine (badLevel_any w bc A n c K hc (by omega) hn).mono ?_
  rintro e w1 ⟨g1, cap1, l1, rfl, h11, h12, ho1, hc1, hk1⟩
  have hs1 := hk1.size
  obtain ⟨n1, hn1⟩ : ∃ n1, l1.length = n1 := ⟨_, rfl⟩
  rw [hn1] at h11 h12 ho1 ⊢
  have HO1 := Lib.hid ho1
  clear hn1 ho1
  go_wp2_with fail
  refine (once_any w1 bc A n c _ 2 hc1 (by omega) (by omega) hn).mono ?_
  rintro e w2 ⟨r, rfl, hc2, hk2⟩
  have hs2 := hk2.size
  have HO2 := Lib.hid (Kp.own HO1.out hk2 hlt)
  have hk02 := hk1.trans hk2
  clear HO1 hk1 hk2 hc1
  cases r with
  | false =>
    go_wp2
    go_ret
    exact ⟨⟨_, _, _, _, rfl, by omega, HO2.out⟩, hk02⟩
  | true =>
    obtain ⟨w3, hw3⟩ : ∃ w3, w2.alloc (.cells #[.int .i64 0, .int .i64 0] 41) = w3 := ⟨_, rfl⟩
    have hb3 : Below w2.heap.size w2 w3 := by rw [← hw3]; exact (Below.refl _ _).alloc (Nat.le_refl _) _
    have HZ : Hid (OwnT w3 w2.heap.size (some ⟨w2.heap.size, 0, none⟩) 1 1 [(0, 0)]) := by rw [← hw3]; exact own_tok w2 0 0
    have HO3 := Lib.hid (own_below' HO2.out hb3)
    have HC3 := Lib.hid (hc2.below hb3)
    have HK3 := Lib.hid (hk02.trans (Kp.of_below hb3))
    have hs3 := hb3.size
    clear hb3 hc2 hk02 HO2
    go_wp2_with fail
    refine (specJoin_any w3 w3.heap.size _ _ n1 cap1 l1 _ 1 1 [(0, 0)] (Nat.le_refl _) (OwnT.reads HO3.out) (by omega) (OwnT.reads HZ.out) (by omega)).mono ?_
    rintro e w4 ⟨A4, c4, rfl, ho4, hb4⟩
    have HK4 := Lib.hid (HK3.out.trans (Kp.of_below hb4))
    have HO4 := Lib.hid (own_below' HO3.out hb4)
    have hc4 := HC3.out.below hb4
    have hs4 := hb4.size
    have hq := joinR_len25 3 l1 [(0, 0)]
    obtain ⟨Q, hQ⟩ : ∃ Q, joinR 3 l1 [(0, 0)] = Q := ⟨_, rfl⟩
    rw [hQ] at ho4 hq ⊢
    have HQ4 := Lib.hid ho4
    clear ho4 hb4 hQ HO3 HC3 HK3 HZ hw3
    cases Q with
    | none =>
      simp only [Option.getD_none, Option.isSome_none, List.length_nil]
      go_wp2
      go_ret
      exact ⟨⟨_, _, _, _, rfl, by omega, HO4.out⟩, HK4.out⟩
    | some q =>
      simp only [Option.getD_some, Option.isSome_some] at HQ4 hq ⊢
      obtain ⟨nq, hnq⟩ : ∃ nq, q.length = nq := ⟨_, rfl⟩
      rw [hnq] at HQ4 hq ⊢
      clear hnq
      go_wp2_with fail
      refine (leaf_any w4 bc A n c _ hc4 (by omega) hn).mono ?_
      rintro e w5 ⟨g5, cap5, l5, rfl, h51, h52, ho5, hc5, hk5⟩
      obtain ⟨n5, hn5⟩ : ∃ n5, l5.length = n5 := ⟨_, rfl⟩
      rw [hn5] at h51 h52 ho5 ⊢
      have HO5 := Lib.hid ho5
      have HQ5 := Lib.hid (Kp.own HQ4.out hk5 (by omega))
      have HO15 := Lib.hid (Kp.own HO4.out hk5 hlt)
      have HK5 := Lib.hid (HK4.out.trans hk5)
      have hs5 := hk5.size
      clear hn5 ho5 hk5 hc5 hc4 HO4 HQ4 HK4
      go_wp2_with fail
      refine (specJoin_any w5 w5.heap.size _ _ nq c4 q _ n5 cap5 l5 (Nat.le_refl _) (OwnT.reads HQ5.out) (by omega) (OwnT.reads HO5.out) (by omega)).mono ?_
      rintro e w6 ⟨A6, c6, rfl, ho6, hb6⟩
      have HK6 := Lib.hid (HK5.out.trans (Kp.of_below hb6))
      have HO6 := Lib.hid (own_below' HO15.out hb6)
      have hp := joinR_len25 2 q l5
      obtain ⟨P, hP⟩ : ∃ P, joinR 2 q l5 = P := ⟨_, rfl⟩
      rw [hP] at ho6 hp ⊢
      have HP6 := Lib.hid (own_base (base' := w.heap.size) ho6 (by omega))
      clear ho6 hb6 hP
      cases P with
      | none =>
        simp only [Option.getD_none, Option.isSome_none, List.length_nil]
        go_wp2
        go_ret
        exact ⟨⟨_, _, _, _, rfl, by omega, HO6.out⟩, HK6.out⟩
      | some p =>
        simp only [Option.getD_some, Option.isSome_some] at HP6 hp ⊢
        obtain ⟨np, hnp⟩ : ∃ np, p.length = np := ⟨_, rfl⟩
        rw [hnp] at HP6 hp ⊢
        clear hnp
        go_wp2
        go_ret
        exact ⟨⟨_, _, _, _, rfl, by omega, HP6.out⟩, HK6.out⟩

set_option maxHeartbeats 800000 in
theorem drawTrim_any (w : World) (B : Nat) (A : Option Addr) (n c : Nat) (hB : B ≤ w.heap.size) (hb : BytR w B A n) (hn : n ≤ 1048576) :
    Calls Tryz.prog 5 #[.slice A n c] w fun e w' => One w.heap.size e w' ∧ Below w.heap.size w w' := by
  go_enter Tryz.func5, Tryz.ntmps5
  go_wp2_with fail
  refine (open_any w B A n c hB hb hn).mono ?_
  rintro e w1 ⟨rfl, hb1, hc1⟩
  have hs1 := hb1.size
  go_wp2_with fail
  refine (idleLevel_any w1 w.heap.size A n c 0 hc1 (by omega) hn).mono ?_
  rintro e w2 ⟨⟨A1, n1, c1, l1, rfl, h1, ho1⟩, hk2⟩
  have HB2 := Lib.hid (Kp.below hb1 hk2 (Nat.le_refl _) hs1)
  have HO1 := Lib.hid (own_base ho1 hs1)
  clear ho1 hk2 hb1 hc1
  go_wp2
  go_ret
  exact ⟨⟨_, _, _, _, rfl, h1, HO1.out⟩, HB2.out⟩

theorem spotJ {w : World} {base g n c i : Nat} {l : List Int} (h : OwnI w base (some ⟨g, 0, none⟩) n c l) (hi : i < n) : w.cell? ⟨g, i, none⟩ = some (.int .i64 (l.getD i 0)) ∧ w.frozen? ⟨g, i, none⟩ = false := by
  obtain ⟨b, off, hA, _, hc⟩ := (OwnI.reads h).2 (by omega)
  rcases h.2 with ⟨h0, _⟩ | ⟨g', cap, cur, hv, hb, hgg, _⟩
  · cases h0
  · injection hv with e1
    injection e1 with e1
    injection e1 with e1
    subst e1
    injection hA with e2
    injection e2 with e2 e3
    subst e2; subst e3
    have := hc i hi
    rw [Nat.zero_add] at this
    exact ⟨this, Blk.thawed (w := w) hgg i⟩
theorem putJ {w : World} {base g n c i : Nat} {l : List Int} (h : OwnI w base (some ⟨g, 0, none⟩) n c l) (v : Int) : OwnI (w.setCell ⟨g, i, none⟩ (.int .i64 v)) base (some ⟨g, 0, none⟩) n c (l.set i v) := by
  have := own_put h i (.int .i64 v)
  rw [← List.map_set] at this
  exact this
theorem evalV_ok {env : List Int} {l : List (Int × Int)} (he : envOk env = true) (h : Lv.levelOk l = true) : evalV (evalR env l) = .tuple #[.int .i64 (Dc.ev env l), .bool true] := by
  unfold evalR
  rw [if_pos he, Dc.ev_some h]
  rfl
theorem envOf5 {env : List Int} (h5 : env.length = 5) (he : ∀ j, j < 5 → 0 ≤ env.getD j 0 ∧ env.getD j 0 ≤ 5) : envOk env = true ∧ Nm.Pos env := by
  match env, h5, he with
  | [a, b, c, d, e], _, he =>
    have h1 := he 0 (by omega); have h2 := he 1 (by omega); have h3 := he 2 (by omega); have h4 := he 3 (by omega); have h5 := he 4 (by omega)
    simp at h1 h2 h3 h4 h5
    refine ⟨by simp [envOk]; omega, fun x hx => ?_⟩
    simp at hx
    omega
theorem getD_bd {env : List Int} (h5 : env.length = 5) (he : ∀ x ∈ env, 0 ≤ x ∧ x ≤ ((5 : Nat) : Int)) (j : Nat) (hj : j < 5) : 0 ≤ env.getD j 0 ∧ env.getD j 0 ≤ 5 := by
  have hm : env.getD j 0 ∈ env := by
    rw [List.getD_eq_getElem?_getD, List.getElem?_eq_getElem (by omega)]
    exact List.getElem_mem _
  have := he _ hm
  omega
/-- what the second env has become when p parameters have been looked at -/
def mixTo (I : List Int) (e1 e2 : List Int) (p j : Nat) : Int := if j < p ∧ inI I (j : Int) = false then e1.getD j 0 else e2.getD j 0
theorem take_in (I : List Int) (v : Int) (j : Nat) (hj : j < I.length) : inI (I.take (j + 1)) v = (inI (I.take j) v || (I.getD j 0 == v)) := by
  have e : I.take (j + 1) = I.take j ++ [I.getD j 0] := by
    rw [List.take_succ_eq_append_getElem hj, List.getD_eq_getElem?_getD, List.getElem?_eq_getElem hj]
    rfl
  unfold inI
  rw [e, Bool.eq_iff_iff]
  simp only [List.contains_iff_mem, List.mem_append, List.mem_singleton, Bool.or_eq_true, beq_iff_eq]
  exact ⟨fun h => h.imp id (fun h => h.symm), fun h => h.imp id (fun h => h.symm)⟩

set_option maxRecDepth 100000 in
set_option maxHeartbeats 16000000 in
theorem fnIdle_any (w : World) (B : Nat) (A : Option Addr) (n c : Nat) (T : TypeId) (pv : Value) (h0 : 0 < B) (hB : B ≤ w.heap.size)
    (hb : BytR w B A n) (hE : ErrAt w T pv) :
    Calls Tryz.prog 3 #[.slice A n c] w fun e w' => e = .returned (.bool true) ∧ Below w.heap.size w w' := by
  by_cases hbig : 1048576 < (n : Int)
  · go_enter Tryz.func3, Tryz.ntmps3
    go_wp2_with fail
    refine (big_any w A n c).mono ?_
    rintro e w' ⟨rfl, rfl⟩
    rw [decide_eq_true (by omega)]
    go_wp2
    go_ret
    exact ⟨rfl, Below.refl _ _⟩
  · have hn : n ≤ 1048576 := by omega
    go_enter Tryz.func3, Tryz.ntmps3
    go_wp2_with fail
    refine (big_any w A n c).mono ?_
    rintro e w' ⟨rfl, rfl⟩
    rw [decide_eq_false (by omega)]
    have HB0 : Hid (Below w.heap.size w w) := Below.refl _ _
    go_wp2_with fail
    refine (drawTrim_any w B A n c hB hb hn).mono ?_
    rintro e w1 ⟨⟨Aa, na, ca, la, rfl, hna, hoa⟩, hb1⟩
    have HB1 := Lib.hid hb1
    have Ra1 := Lib.hid hoa
    have hs1 := hb1.size
    have hla : la.length = na := (OwnT.reads hoa).1
    have HLA := Lib.hid hla
    clear hoa hb1 hla
    cases ok : Lv.levelOk la with
    | false =>
      have HT : Hid (Dc.trimR la = none) := if_neg (by rw [ok]; decide)
      clear ok
      go_wp2_with fail
      refine (implTrim_any w1 w1.heap.size Aa na ca la T pv (Nat.lt_of_lt_of_le h0 (Nat.le_trans hB HB1.out.size)) (Nat.le_refl _) (OwnT.reads Ra1.out) (by omega) (hE.below (HB1.out.mono hB) h0)).mono ?_
      rintro e w2 ⟨A2, c2, rfl, ho, hb⟩
      have HB2 := Lib.hid (HB1.out.trans (hb.mono HB1.out.size))
      have Ra2 := Lib.hid (own_below' Ra1.out hb)
      rw [HT.out] at ho ⊢
      simp only [Option.getD_none, Option.isSome_none, List.length_nil] at ho ⊢
      have Rt2 := Lib.hid (own_base (base' := w.heap.size) ho HB1.out.size)
      clear hb Ra1 HB1
      clear ho
      go_wp2_with fail
      refine (specTrim_any w2 w2.heap.size Aa na ca la (Nat.le_refl _) (OwnT.reads Ra2.out) (by omega)).mono ?_
      rintro e w3 ⟨A3, c3, rfl, ho, hb⟩
      have HB3 := Lib.hid (HB2.out.trans (hb.mono HB2.out.size))
      have Ra3 := Lib.hid (own_below' Ra2.out hb)
      have Rt3 := Lib.hid (own_below' Rt2.out hb)
      rw [HT.out] at ho ⊢
      simp only [Option.getD_none, Option.isSome_none, List.length_nil] at ho ⊢
      have Rv3 := Lib.hid (own_base (base' := w.heap.size) ho HB2.out.size)
      clear hb Ra2 Rt2 HB2
      clear ho
      go_wp2_with fail
      refine (sameT_any w3 w3.heap.size A2 A3 0 c2 c3 ([] : List (Int × Int)) (Nat.le_refl _) (OwnT.reads Rt3.out) (OwnT.reads Rv3.out) (by omega)).mono ?_
      rintro e w4 ⟨rfl, hb⟩
      have HB4 := Lib.hid (HB3.out.trans (hb.mono HB3.out.size))
      have Ra4 := Lib.hid (own_below' Ra3.out hb)
      have Rt4 := Lib.hid (own_below' Rt3.out hb)
      have Rv4 := Lib.hid (own_below' Rv3.out hb)
      clear hb Ra3 Rt3 Rv3 HB3
      go_wp2_with fail
      refine (sameT_any w4 w4.heap.size A2 A3 0 c2 c3 ([] : List (Int × Int)) (Nat.le_refl _) (OwnT.reads Rt4.out) (OwnT.reads Rv4.out) (by omega)).mono ?_
      rintro e w5 ⟨rfl, hb⟩
      have HB5 := Lib.hid (HB4.out.trans (hb.mono HB4.out.size))
      have Ra5 := Lib.hid (own_below' Ra4.out hb)
      have Rt5 := Lib.hid (own_below' Rt4.out hb)
      have Rv5 := Lib.hid (own_below' Rv4.out hb)
      clear hb Ra4 Rt4 Rv4 HB4
      go_wp2
      go_ret
      exact ⟨rfl, HB5.out⟩
    | true =>
      have OA := Lib.hid ok
      have hq := Dc.trim_ok (Dc.idleR la) ok
      have EQT := Lib.hid (Dc.trim_eq ok)
      have ITR := Lib.hid (Dc.trim_idle ok)
      have VT := Lib.hid (fun (env : List Int) (h5 : env.length = 5) (hp : Nm.Pos env) => Dc.trim_value ok h5 hp)
      have hql : (Dc.trimL (Dc.idleR la) la).length = na := by rw [Dc.trimL, List.length_map]; exact HLA.out
      have HT : Hid (Dc.trimR la = some (Dc.trimL (Dc.idleR la) la)) := if_pos ok
      obtain ⟨q, hqe⟩ : ∃ q, Dc.trimL (Dc.idleR la) la = q := ⟨_, rfl⟩
      rw [hqe] at hq hql EQT ITR VT HT
      have OQ := Lib.hid hq
      have NQ := Lib.hid hql
      clear hq hql hqe ok
      go_wp2_with fail
      refine (implTrim_any w1 w1.heap.size Aa na ca la T pv (Nat.lt_of_lt_of_le h0 (Nat.le_trans hB HB1.out.size)) (Nat.le_refl _) (OwnT.reads Ra1.out) (by omega) (hE.below (HB1.out.mono hB) h0)).mono ?_
      rintro e w2 ⟨A2, c2, rfl, ho, hb⟩
      have HB2 := Lib.hid (HB1.out.trans (hb.mono HB1.out.size))
      have Ra2 := Lib.hid (own_below' Ra1.out hb)
      rw [HT.out] at ho ⊢
      simp only [Option.getD_some, Option.isSome_some] at ho ⊢
      rw [NQ.out] at ho ⊢
      have Rt2 := Lib.hid (own_base (base' := w.heap.size) ho HB1.out.size)
      clear hb Ra1 HB1
      clear ho
      go_wp2_with fail
      refine (specTrim_any w2 w2.heap.size Aa na ca la (Nat.le_refl _) (OwnT.reads Ra2.out) (by omega)).mono ?_
      rintro e w3 ⟨A3, c3, rfl, ho, hb⟩
      have HB3 := Lib.hid (HB2.out.trans (hb.mono HB2.out.size))
      have Ra3 := Lib.hid (own_below' Ra2.out hb)
      have Rt3 := Lib.hid (own_below' Rt2.out hb)
      rw [HT.out] at ho ⊢
      simp only [Option.getD_some, Option.isSome_some] at ho ⊢
      rw [NQ.out] at ho ⊢
      have Rv3 := Lib.hid (own_base (base' := w.heap.size) ho HB2.out.size)
      clear hb Ra2 Rt2 HB2
      clear ho
      go_wp2_with fail
      refine (sameT_any w3 w3.heap.size A2 A3 na c2 c3 q (Nat.le_refl _) (OwnT.reads Rt3.out) (OwnT.reads Rv3.out) (by omega)).mono ?_
      rintro e w4 ⟨rfl, hb⟩
      have HB4 := Lib.hid (HB3.out.trans (hb.mono HB3.out.size))
      have Ra4 := Lib.hid (own_below' Ra3.out hb)
      have Rt4 := Lib.hid (own_below' Rt3.out hb)
      have Rv4 := Lib.hid (own_below' Rv3.out hb)
      clear hb Ra3 Rt3 Rv3 HB3
      go_wp2_with fail
      refine (implIdle_any w4 w4.heap.size Aa na ca la T pv (Nat.lt_of_lt_of_le h0 (Nat.le_trans hB HB4.out.size)) (Nat.le_refl _) (OwnT.reads Ra4.out) (by omega) (hE.below (HB4.out.mono hB) h0)).mono ?_
      rintro e w5 ⟨Ai, ci, rfl, hoi, hb⟩
      have HB5 := Lib.hid (HB4.out.trans (hb.mono HB4.out.size))
      have Ra5 := Lib.hid (own_below' Ra4.out hb)
      have Rt5 := Lib.hid (own_below' Rt4.out hb)
      have Rv5 := Lib.hid (own_below' Rv4.out hb)
      have hM5 := Dc.idleR_len la
      obtain ⟨M, hM⟩ : ∃ M, (Dc.idleR la).length = M := ⟨_, rfl⟩
      rw [hM] at hoi hM5 ⊢
      have HM := Lib.hid hM
      have Ri5 := Lib.hid (own_base (base' := w.heap.size) hoi HB4.out.size)
      clear hb Ra4 Rt4 Rv4 HB4
      clear hoi hM
      go_wp2_with fail
      refine (envs_any w5 B A n c 3 5 (Nat.le_trans hB HB5.out.size) (hb.below (HB5.out.mono hB)) hn (by omega) (by omega)).mono ?_
      rintro e w6 ⟨gx, capx, envx, rfl, he5x, hebx, hoe, hbe⟩
      have HB6 := Lib.hid (HB5.out.trans (hbe.mono HB5.out.size))
      have Ra6 := Lib.hid (own_below' Ra5.out hbe)
      have Rt6 := Lib.hid (own_below' Rt5.out hbe)
      have Rv6 := Lib.hid (own_below' Rv5.out hbe)
      have Ri6 := Lib.hid (own_below' Ri5.out hbe)
      have Rx6 := Lib.hid (own_base (base' := w.heap.size) hoe HB5.out.size)
      clear hbe Ra5 Rt5 Rv5 Ri5 HB5
      clear hoe
      go_wp2_with fail
      refine (envs_any w6 B A n c 9 5 (Nat.le_trans hB HB6.out.size) (hb.below (HB6.out.mono hB)) hn (by omega) (by omega)).mono ?_
      rintro e w7 ⟨gy, capy, envy, rfl, he5y, heby, hoe, hbe⟩
      have HB7 := Lib.hid (HB6.out.trans (hbe.mono HB6.out.size))
      have Ra7 := Lib.hid (own_below' Ra6.out hbe)
      have Rt7 := Lib.hid (own_below' Rt6.out hbe)
      have Rv7 := Lib.hid (own_below' Rv6.out hbe)
      have Ri7 := Lib.hid (own_below' Ri6.out hbe)
      have Rx7 := Lib.hid (own_below' Rx6.out hbe)
      have HW7 := Lib.hid hoe
      have HBE := Lib.hid hbe
      have hsx := HB6.out.size
      clear hoe hbe
      obtain ⟨I, hI⟩ : ∃ I, Dc.idleR la = I := ⟨_, rfl⟩
      have HI := Lib.hid hI
      have RI := Lib.hid (OwnI.reads Ri6.out)
      rw [hI] at RI HM
      have RX := Lib.hid (OwnI.reads Rx6.out)
      have BX := Lib.hid (getD_bd he5x hebx)
      have BY := Lib.hid (getD_bd he5y heby)
      have HE5 := Lib.hid he5x
      clear hI he5x hebx heby
      have hgy := (HW7.out.lt gy rfl).1
      have H5Y := Lib.hid he5y
      clear he5y
      go_wp2
      go_loopw [11] (fun i wr => ∃ (p : Nat) (env' : List Int), p ≤ 5 ∧ i = .int .i64 p ∧ Hid (OwnI wr w6.heap.size (some ⟨gy, 0, none⟩) 5 capy env') ∧ Hid (env'.length = 5 ∧ ∀ j, j < 5 → env'.getD j 0 = mixTo I envx envy p j) ∧ Hid (Below w6.heap.size w6 wr)) (fun i _ => 5 - (intOf i).toNat)
      case atStart => exact ⟨0, envy, by omega, rfl, HW7.out, ⟨H5Y.out, fun j hj => (if_neg (fun h => absurd h.1 (by omega))).symm⟩, HBE.out⟩
      case round =>
        rename_i wo
        obtain ⟨p, env', hp5, rfl, HOY, HMX, HBR⟩ := hrel
        have hszr := HBR.out.size
        by_cases hlt : p < 5
        · have hpi : (p : Int) < 5 := by omega
          obtain ⟨gb, go, hA, hgb, hcx⟩ := RX.out.2 (by omega)
          have xp := (HBR.out.cell (p := ⟨gb, go + p, none⟩) hgb).trans (hcx p hlt)
          injection hA with hA
          injection hA with e1 e2
          subst e1; subst e2
          obtain ⟨vx, hvx⟩ : ∃ vx, envx.getD p 0 = vx := ⟨_, rfl⟩
          rw [hvx] at xp
          simp only [Nat.zero_add] at xp
          have HVX := Lib.hid hvx
          clear hcx hvx
          go_wp2
          go_loopw [12, 13] (fun v i wr2 => ∃ j : Nat, j ≤ M ∧ i = .int .i64 j ∧ v = .bool (inI (I.take j) (p : Int)) ∧ wr2 = wr) (fun _ i _ => M - (intOf i).toNat)
          case atStart => exact ⟨0, Nat.zero_le _, rfl, rfl, rfl⟩
          case round =>
            rename_i wp
            obtain ⟨j, hj, rfl, rfl, hwr⟩ := hrel
            subst hwr
            by_cases hjm : j < M
            · have hji : (j : Int) < (M : Int) := by omega
              obtain ⟨ib, io, hAi, hib, hic⟩ := RI.out.2 (by omega)
              subst hAi
              have ij := (HBR.out.cell (p := ⟨ib, io + j, none⟩) hib).trans (hic j hjm)
              have HTK := Lib.hid (take_in I (p : Int) j (by rw [HM.out]; exact hjm))
              obtain ⟨q2, hq2⟩ : ∃ q2, I.getD j 0 = q2 := ⟨_, rfl⟩
              rw [hq2] at ij HTK
              clear hic hq2
              cases hin : inI (I.take j) (p : Int) with
              | true =>
                rw [hin] at HTK
                clear hin
                go_wp2
                go_roundw
                case rel => exact ⟨j + 1, by omega, by go_num, by rw [HTK.out]; rfl, trivial⟩
                case measure => simp [intOf]; omega
              | false =>
                rw [hin] at HTK
                clear hin
                obtain ⟨dq, hdq⟩ : ∃ dq, (q2 == (p : Int)) = dq := ⟨_, rfl⟩
                rw [hdq] at HTK
                go_wp2
                go_roundw
                case rel => exact ⟨j + 1, by omega, by go_num, by rw [HTK.out]; rfl, trivial⟩
                case measure => simp [intOf]; omega
            · obtain rfl : j = M := by omega
              have hjj : ¬ (j : Int) < (j : Int) := by omega
              rw [List.take_of_length_le (by rw [HM.out]; exact Nat.le_refl _)]
              cases hin : inI I (p : Int) with
              | true =>
                have HMX2 : Hid (env'.length = 5 ∧ ∀ j, j < 5 → env'.getD j 0 = mixTo I envx envy (p + 1) j) := ⟨HMX.out.1, fun j hj => by
                  rw [HMX.out.2 j hj]
                  unfold mixTo
                  by_cases e : j = p
                  · subst e; rw [if_neg (fun h => absurd h.1 (by omega)), if_neg (fun h => by rw [hin] at h; cases h.2)]
                  · by_cases h1 : j < p ∧ inI I (j : Int) = false
                    · rw [if_pos h1, if_pos ⟨by omega, h1.2⟩]
                    · rw [if_neg h1, if_neg (fun h => h1 ⟨by omega, h.2⟩)]⟩
                clear hin
                go_wp2
                go_roundw
                case rel => exact ⟨p + 1, env', by omega, by go_num, HOY.out, HMX2.out, HBR.out⟩
                case measure => simp [intOf]; omega
              | false =>
                have HMX2 : Hid ((env'.set p vx).length = 5 ∧ ∀ j, j < 5 → (env'.set p vx).getD j 0 = mixTo I envx envy (p + 1) j) := ⟨by rw [List.length_set]; exact HMX.out.1, fun j hj => by
                  rw [Dc.set_get env' HMX.out.1 p hlt vx j]
                  by_cases e : j = p
                  · subst e
                    rw [if_pos rfl]
                    unfold mixTo
                    rw [if_pos ⟨by omega, hin⟩, HVX.out]
                  · rw [if_neg e, HMX.out.2 j hj]
                    unfold mixTo
                    by_cases h1 : j < p ∧ inI I (j : Int) = false
                    · rw [if_pos h1, if_pos ⟨by omega, h1.2⟩]
                    · rw [if_neg h1, if_neg (fun h => h1 ⟨by omega, h.2⟩)]⟩
                obtain ⟨y1, y2⟩ := spotJ HOY.out (i := p) (by omega)
                have hkt : ((p : Int)).toNat = p := by omega
                clear hin
                go_wp2
                go_roundw
                case rel => exact ⟨p + 1, env'.set p vx, by omega, by go_num, putJ HOY.out vx, HMX2.out, HBR.out.setCell (p := ⟨gy, p, none⟩) hgy _⟩
                case measure => simp [intOf]; omega
        · obtain rfl : p = 5 := by omega
          have h55 : ¬ ((5 : Nat) : Int) < 5 := by omega
          have HEX := Lib.hid (envOf5 HE5.out BX.out)
          have HEY := Lib.hid (envOf5 HMX.out.1 (fun j hj => by
            rw [HMX.out.2 j hj]
            unfold mixTo
            split
            · exact BX.out j hj
            · exact BY.out j hj))
          have HSAME : Hid (Dc.ev env' la = Dc.ev envx la) := Dc.idle_value HMX.out.1 HE5.out HEY.out.2 HEX.out.2 (fun i hi hc => by
            rw [HMX.out.2 i hi]
            unfold mixTo
            rw [if_pos ⟨hi, by rw [← HI.out]; exact hc⟩])
          have EX := Lib.hid (evalV_ok HEX.out.1 OA.out)
          have EY := Lib.hid (evalV_ok HEY.out.1 OA.out)
          have EZ := Lib.hid (evalV_ok HEY.out.1 OQ.out)
          rw [HSAME.out] at EY
          rw [VT.out env' HMX.out.1 HEY.out.2, HSAME.out] at EZ
          have HK : Hid (0 ≤ Dc.cstR la → Dc.ev envx la = Dc.cstR la) := fun h => Dc.cst_value h HE5.out HEX.out.2
          have HB8 := Lib.hid (HB6.out.trans (HBR.out.mono HB6.out.size))
          have Ra8 := Lib.hid (own_below' Ra6.out HBR.out)
          have Rt8 := Lib.hid (own_below' Rt6.out HBR.out)
          have Rv8 := Lib.hid (own_below' Rv6.out HBR.out)
          have Ri8 := Lib.hid (own_below' Ri6.out HBR.out)
          have Rx8 := Lib.hid (own_below' Rx6.out HBR.out)
          have Ry8 := Lib.hid (own_base (base' := w.heap.size) HOY.out (Nat.le_trans HB6.out.size (Nat.le_refl _)))
          go_wp2_with fail
          refine (levelEval_any wr wr.heap.size Aa (some ⟨gx, 0, none⟩) na ca 5 capx envx la T pv (Nat.lt_of_lt_of_le h0 (Nat.le_trans hB HB8.out.size)) (Nat.le_refl _) (OwnT.reads Ra8.out) (by omega) (OwnI.reads Rx8.out) (by omega) (hE.below (HB8.out.mono hB) h0)).mono ?_
          rintro e w9 ⟨rfl, hb⟩
          have HB9 := Lib.hid (HB8.out.trans (hb.mono HB8.out.size))
          have Ra9 := Lib.hid (own_below' Ra8.out hb)
          have Rt9 := Lib.hid (own_below' Rt8.out hb)
          have Rv9 := Lib.hid (own_below' Rv8.out hb)
          have Ri9 := Lib.hid (own_below' Ri8.out hb)
          have Rx9 := Lib.hid (own_below' Rx8.out hb)
          have Ry9 := Lib.hid (own_below' Ry8.out hb)
          clear hb Ra8 Rt8 Rv8 Ri8 Rx8 Ry8 HB8
          rw [EX.out]
          go_wp2_with fail
          refine (levelEval_any w9 w9.heap.size Aa (some ⟨gy, 0, none⟩) na ca 5 capy env' la T pv (Nat.lt_of_lt_of_le h0 (Nat.le_trans hB HB9.out.size)) (Nat.le_refl _) (OwnT.reads Ra9.out) (by omega) (OwnI.reads Ry9.out) (by omega) (hE.below (HB9.out.mono hB) h0)).mono ?_
          rintro e w10 ⟨rfl, hb⟩
          have HB10 := Lib.hid (HB9.out.trans (hb.mono HB9.out.size))
          have Ra10 := Lib.hid (own_below' Ra9.out hb)
          have Rt10 := Lib.hid (own_below' Rt9.out hb)
          have Rv10 := Lib.hid (own_below' Rv9.out hb)
          have Ri10 := Lib.hid (own_below' Ri9.out hb)
          have Rx10 := Lib.hid (own_below' Rx9.out hb)
          have Ry10 := Lib.hid (own_below' Ry9.out hb)
          clear hb Ra9 Rt9 Rv9 Ri9 Rx9 Ry9 HB9
          rw [EY.out]
          go_wp2_with fail
          refine (levelEval_any w10 w10.heap.size A2 (some ⟨gy, 0, none⟩) na c2 5 capy env' q T pv (Nat.lt_of_lt_of_le h0 (Nat.le_trans hB HB10.out.size)) (Nat.le_refl _) (OwnT.reads Rt10.out) (by omega) (OwnI.reads Ry10.out) (by omega) (hE.below (HB10.out.mono hB) h0)).mono ?_
          rintro e w11 ⟨rfl, hb⟩
          have HB11 := Lib.hid (HB10.out.trans (hb.mono HB10.out.size))
          have Ra11 := Lib.hid (own_below' Ra10.out hb)
          have Rt11 := Lib.hid (own_below' Rt10.out hb)
          have Rv11 := Lib.hid (own_below' Rv10.out hb)
          have Ri11 := Lib.hid (own_below' Ri10.out hb)
          have Rx11 := Lib.hid (own_below' Rx10.out hb)
          have Ry11 := Lib.hid (own_below' Ry10.out hb)
          clear hb Ra10 Rt10 Rv10 Ri10 Rx10 Ry10 HB10
          rw [EZ.out]
          obtain ⟨X, hX⟩ : ∃ X, Dc.ev envx la = X := ⟨_, rfl⟩
          rw [hX] at HK ⊢
          have hxx : (X == X) = true := by simp
          clear hX EX EY EZ HSAME HEX HEY HMX
          go_wp2_with fail
          refine (implLevelConst_any w11 w11.heap.size Aa na ca la T pv (Nat.lt_of_lt_of_le h0 (Nat.le_trans hB HB11.out.size)) (Nat.le_refl _) (OwnT.reads Ra11.out) (by omega) (hE.below (HB11.out.mono hB) h0)).mono ?_
          rintro e w12 ⟨rfl, hb⟩
          have HB12 := Lib.hid (HB11.out.trans (hb.mono HB11.out.size))
          have Ra12 := Lib.hid (own_below' Ra11.out hb)
          have Rt12 := Lib.hid (own_below' Rt11.out hb)
          have Rv12 := Lib.hid (own_below' Rv11.out hb)
          have Ri12 := Lib.hid (own_below' Ri11.out hb)
          have Rx12 := Lib.hid (own_below' Rx11.out hb)
          have Ry12 := Lib.hid (own_below' Ry11.out hb)
          clear hb Ra11 Rt11 Rv11 Ri11 Rx11 Ry11 HB11
          go_wp2_with fail
          refine (implLevelEq_any w12 w12.heap.size A2 na c2 q Aa na ca la T pv (Nat.lt_of_lt_of_le h0 (Nat.le_trans hB HB12.out.size)) (Nat.le_refl _) (OwnT.reads Rt12.out) (by omega) (OwnT.reads Ra12.out) (by omega) (hE.below (HB12.out.mono hB) h0)).mono ?_
          rintro e w13 ⟨rfl, hb⟩
          have HB13 := Lib.hid (HB12.out.trans (hb.mono HB12.out.size))
          have Ra13 := Lib.hid (own_below' Ra12.out hb)
          have Rt13 := Lib.hid (own_below' Rt12.out hb)
          have Rv13 := Lib.hid (own_below' Rv12.out hb)
          have Ri13 := Lib.hid (own_below' Ri12.out hb)
          have Rx13 := Lib.hid (own_below' Rx12.out hb)
          have Ry13 := Lib.hid (own_below' Ry12.out hb)
          clear hb Ra12 Rt12 Rv12 Ri12 Rx12 Ry12 HB12
          rw [EQT.out]
          go_wp2_with fail
          refine (implIdle_any w13 w13.heap.size A2 na c2 q T pv (Nat.lt_of_lt_of_le h0 (Nat.le_trans hB HB13.out.size)) (Nat.le_refl _) (OwnT.reads Rt13.out) (by omega) (hE.below (HB13.out.mono hB) h0)).mono ?_
          rintro e w14 ⟨Aj, cj, rfl, hoj, hb⟩
          have HB14 := Lib.hid (HB13.out.trans (hb.mono HB13.out.size))
          have Ra14 := Lib.hid (own_below' Ra13.out hb)
          have Rt14 := Lib.hid (own_below' Rt13.out hb)
          have Rv14 := Lib.hid (own_below' Rv13.out hb)
          have Ri14 := Lib.hid (own_below' Ri13.out hb)
          have Rx14 := Lib.hid (own_below' Rx13.out hb)
          have Ry14 := Lib.hid (own_below' Ry13.out hb)
          rw [ITR.out]
          simp only [List.length_nil]
          clear hb Ra13 Rt13 Rv13 Ri13 Rx13 Ry13 HB13
          clear hoj
          go_wp2_with fail
          refine (specLevelConst_any w14 w14.heap.size Aa na ca la (Nat.le_refl _) (OwnT.reads Ra14.out) (by omega)).mono ?_
          rintro e w15 ⟨rfl, hb⟩
          have HB15 := Lib.hid (HB14.out.trans (hb.mono HB14.out.size))
          have Ra15 := Lib.hid (own_below' Ra14.out hb)
          have Rt15 := Lib.hid (own_below' Rt14.out hb)
          have Rv15 := Lib.hid (own_below' Rv14.out hb)
          have Ri15 := Lib.hid (own_below' Ri14.out hb)
          have Rx15 := Lib.hid (own_below' Rx14.out hb)
          have Ry15 := Lib.hid (own_below' Ry14.out hb)
          clear hb Ra14 Rt14 Rv14 Ri14 Rx14 Ry14 HB14
          obtain ⟨kc, hkc⟩ : ∃ kc, Dc.cstR la = kc := ⟨_, rfl⟩
          rw [hkc] at HK ⊢
          have hkk : (kc == kc) = true := by simp
          clear hkc
          by_cases hneg : kc < 0
          · have dn : decide (kc < 0) = true := decide_eq_true hneg
            go_wp2
            go_ret
            exact ⟨rfl, HB15.out⟩
          · have dn : decide (kc < 0) = false := decide_eq_false hneg
            have hxk : (X == kc) = true := by rw [HK.out (by omega)]; simp
            clear hneg
            go_wp2
            go_ret
            exact ⟨rfl, HB15.out⟩
end Go.Proofs.YtghoofgfimeedaaGreatDoor
