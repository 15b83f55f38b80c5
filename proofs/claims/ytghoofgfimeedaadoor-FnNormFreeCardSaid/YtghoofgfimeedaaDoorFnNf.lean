/- The law FnNormFree: the walk. -/
import Derived.Test.YtghoofgfimeedaaDoorDraw7
import Derived.Test.YtghoofgfimeedaaDoorDLe
import Derived.Test.YtghoofgfimeedaaDoorDcMath7
import Derived.Test.YtghoofgfimeedaaDoorSameA
import Derived.Test.YtghoofgfimeedaaDoorSFree2

namespace Go.Proofs.YtghoofgfimeedaaDoor
open Go.RowKit

theorem own_capG {w : World} {base n c size : Nat} {e : TypeId} {A : Option Addr} {xs : List Value} (h : w.ownsRow base e size (.slice A n c) n xs) : n ≤ c := by
  rcases h.2 with ⟨_, h1⟩ | ⟨g, cap, cur, hv, _, _, h6, _⟩
  · omega
  · injection hv with _ _ e3; subst e3; exact h6
theorem evalV_free {env : List Int} {l a : List (Int × Int)} (he : envOk env = true) (h : Nm.freeR l = some a) : evalV (evalR env l) = .tuple #[.int .i64 (Nm.value env a), .bool true] := by
  obtain ⟨h1, _, _, h4⟩ := Dc.free_ev h
  have h5 := h4 env (Dc.env_pos he).2
  have h6 := Dc.ev_some (env := env) h1
  rw [h5] at h6
  unfold evalR
  rw [if_pos he, h6]
  rfl
theorem nevV_free {env : List Int} {l a : List (Int × Int)} (he : envOk env = true) (h : Nm.freeR l = some a) : nevV a env = .tuple #[.int .i64 (Nm.value env a), .bool true] := by
  obtain ⟨_, h2, _, _⟩ := Dc.free_ev h
  unfold nevV
  rw [nevR_yes ⟨by simpa [Nm.normOk] using h2, he⟩]
  rfl
theorem env5ok {env : List Int} (h5 : env.length = 5) (he : ∀ x ∈ env, 0 ≤ x ∧ x ≤ ((5 : Nat) : Int)) : envOk env = true := by
  match env, h5, he with
  | [a, b, c, d, e], _, he =>
    have h1 := he a (by simp); have h2 := he b (by simp); have h3 := he c (by simp); have h4 := he d (by simp); have h5 := he e (by simp)
    simp [envOk]; omega

set_option maxRecDepth 100000 in
set_option maxHeartbeats 16000000 in
theorem fnNormFree_any (w : World) (B : Nat) (A : Option Addr) (n c : Nat) (T : TypeId) (pv : Value) (h0 : 0 < B) (hB : B ≤ w.heap.size)
    (hb : BytR w B A n) (hnc : n ≤ c) (hE : ErrAt w T pv) :
    Calls Tryd.prog 3 #[.slice A n c] w fun e w' => e = .returned (.bool true) ∧ Below w.heap.size w w' := by
  by_cases hbig : 1048576 < (n : Int)
  · go_enter Tryd.func3, Tryd.ntmps3
    go_wp2_with fail
    refine (big_any w A n c).mono ?_
    rintro e w' ⟨rfl, rfl⟩
    rw [decide_eq_true (by omega)]
    go_wp2
    go_ret
    exact ⟨rfl, Below.refl _ _⟩
  · have hn : n ≤ 1048576 := by omega
    go_enter Tryd.func3, Tryd.ntmps3
    go_wp2_with fail
    refine (big_any w A n c).mono ?_
    rintro e w' ⟨rfl, rfl⟩
    rw [decide_eq_false (by omega)]
    have HB0 : Hid (Below w.heap.size w w) := Below.refl _ _
    go_wp2_with fail
    refine (drawNormFree_any w B A n c hB hb hn).mono ?_
    rintro e w1 ⟨ga, na, ca, la, rfl, hna, hoa, hb1⟩
    have HB1 := Lib.hid hb1
    have Ra1 := Lib.hid hoa
    have hs1 := hb1.size
    clear hoa hb1
    cases hf : Nm.freeR la with
    | none =>
      have HF := Lib.hid hf
      clear hf
      go_wp2_with fail
      refine (implNormFree_any w1 w1.heap.size (some ⟨ga, 0, none⟩) na ca la T pv (Nat.lt_of_lt_of_le h0 (Nat.le_trans hB HB1.out.size)) (Nat.le_refl _) (OwnT.reads Ra1.out) (by omega) (hE.below (HB1.out.mono hB) h0)).mono ?_
      rintro e w2 ⟨A2, c2, rfl, ho, hb⟩
      have HB2 := Lib.hid (HB1.out.trans (hb.mono HB1.out.size))
      have Ra2 := Lib.hid (own_below' Ra1.out hb)
      rw [HF.out] at ho ⊢
      simp only [Option.getD_none, Option.isSome_none, List.length_nil] at ho ⊢
      have Rn2 := Lib.hid (own_base (base' := w.heap.size) ho HB1.out.size)
      clear hb Ra1 HB1
      clear ho
      go_wp2_with fail
      refine (specNormFree_any w2 w2.heap.size (some ⟨ga, 0, none⟩) na ca la (Nat.le_refl _) (OwnT.reads Ra2.out) (by omega)).mono ?_
      rintro e w3 ⟨A3, c3, rfl, ho, hb⟩
      have HB3 := Lib.hid (HB2.out.trans (hb.mono HB2.out.size))
      have Ra3 := Lib.hid (own_below' Ra2.out hb)
      have Rn3 := Lib.hid (own_below' Rn2.out hb)
      rw [HF.out] at ho ⊢
      simp only [Option.getD_none, Option.isSome_none, List.length_nil] at ho ⊢
      have Rv3 := Lib.hid (own_base (base' := w.heap.size) ho HB2.out.size)
      clear hb Ra2 Rn2 HB2
      clear ho
      go_wp2_with fail
      refine (sameAtoms_any w3 w3.heap.size A2 A3 0 0 c2 c3 ([] : List (Int × Int)) ([] : List (Int × Int)) (Nat.le_refl _) (OwnA.reads Rn3.out) (OwnA.reads Rv3.out) (by omega) (by omega)).mono ?_
      rintro e w4 ⟨rfl, hb⟩
      have HB4 := Lib.hid (HB3.out.trans (hb.mono HB3.out.size))
      have Ra4 := Lib.hid (own_below' Ra3.out hb)
      have Rn4 := Lib.hid (own_below' Rn3.out hb)
      have Rv4 := Lib.hid (own_below' Rv3.out hb)
      clear hb Ra3 Rn3 Rv3 HB3
      rw [decide_eq_true rfl]
      go_wp2_with fail
      refine (sameAtoms_any w4 w4.heap.size A2 A3 0 0 c2 c3 ([] : List (Int × Int)) ([] : List (Int × Int)) (Nat.le_refl _) (OwnA.reads Rn4.out) (OwnA.reads Rv4.out) (by omega) (by omega)).mono ?_
      rintro e w5 ⟨rfl, hb⟩
      have HB5 := Lib.hid (HB4.out.trans (hb.mono HB4.out.size))
      have Ra5 := Lib.hid (own_below' Ra4.out hb)
      have Rn5 := Lib.hid (own_below' Rn4.out hb)
      have Rv5 := Lib.hid (own_below' Rv4.out hb)
      clear hb Ra4 Rn4 Rv4 HB4
      rw [decide_eq_true rfl]
      go_wp2
      go_ret
      exact ⟨rfl, HB5.out⟩
    | some fa =>
      have HF := Lib.hid hf
      have hl6 := Nm.freeR_len la
      rw [hf] at hl6
      simp only [Option.getD_some] at hl6
      obtain ⟨nf, hnf⟩ : ∃ nf, fa.length = nf := ⟨_, rfl⟩
      rw [hnf] at hl6
      have NF := Lib.hid hnf
      clear hf hnf
      go_wp2_with fail
      refine (implNormFree_any w1 w1.heap.size (some ⟨ga, 0, none⟩) na ca la T pv (Nat.lt_of_lt_of_le h0 (Nat.le_trans hB HB1.out.size)) (Nat.le_refl _) (OwnT.reads Ra1.out) (by omega) (hE.below (HB1.out.mono hB) h0)).mono ?_
      rintro e w2 ⟨A2, c2, rfl, ho, hb⟩
      have HB2 := Lib.hid (HB1.out.trans (hb.mono HB1.out.size))
      have Ra2 := Lib.hid (own_below' Ra1.out hb)
      rw [HF.out] at ho ⊢
      simp only [Option.getD_some, Option.isSome_some] at ho ⊢
      rw [NF.out] at ho ⊢
      have Rn2 := Lib.hid (own_base (base' := w.heap.size) ho HB1.out.size)
      clear hb Ra1 HB1
      clear ho
      go_wp2_with fail
      refine (specNormFree_any w2 w2.heap.size (some ⟨ga, 0, none⟩) na ca la (Nat.le_refl _) (OwnT.reads Ra2.out) (by omega)).mono ?_
      rintro e w3 ⟨A3, c3, rfl, ho, hb⟩
      have HB3 := Lib.hid (HB2.out.trans (hb.mono HB2.out.size))
      have Ra3 := Lib.hid (own_below' Ra2.out hb)
      have Rn3 := Lib.hid (own_below' Rn2.out hb)
      rw [HF.out] at ho ⊢
      simp only [Option.getD_some, Option.isSome_some] at ho ⊢
      rw [NF.out] at ho ⊢
      have Rv3 := Lib.hid (own_base (base' := w.heap.size) ho HB2.out.size)
      clear hb Ra2 Rn2 HB2
      clear ho
      go_wp2_with fail
      refine (sameAtoms_any w3 w3.heap.size A2 A3 nf nf c2 c3 fa fa (Nat.le_refl _) (OwnA.reads Rn3.out) (OwnA.reads Rv3.out) (by omega) (by omega)).mono ?_
      rintro e w4 ⟨rfl, hb⟩
      have HB4 := Lib.hid (HB3.out.trans (hb.mono HB3.out.size))
      have Ra4 := Lib.hid (own_below' Ra3.out hb)
      have Rn4 := Lib.hid (own_below' Rn3.out hb)
      have Rv4 := Lib.hid (own_below' Rv3.out hb)
      clear hb Ra3 Rn3 Rv3 HB3
      rw [decide_eq_true rfl]
      go_wp2_with fail
      refine (envs_any w4 B A n c 3 5 (Nat.le_trans hB HB4.out.size) (hb.below (HB4.out.mono hB)) hn (by omega) (by omega)).mono ?_
      rintro e w5 ⟨ge, capE, env, rfl, he5, heb, hoe, hbe⟩
      have HB5 := Lib.hid (HB4.out.trans (hbe.mono HB4.out.size))
      have Ra5 := Lib.hid (own_below' Ra4.out hbe)
      have Rn5 := Lib.hid (own_below' Rn4.out hbe)
      have Rv5 := Lib.hid (own_below' Rv4.out hbe)
      have Re5 := Lib.hid (own_base (base' := w.heap.size) hoe HB4.out.size)
      have hev := env5ok he5 heb
      have HX := Lib.hid (evalV_free hev HF.out)
      have HY := Lib.hid (nevV_free hev HF.out)
      clear hbe Ra4 Rn4 Rv4 HB4
      clear hoe he5 heb hev
      go_wp2_with fail
      refine (levelEval_any w5 w5.heap.size (some ⟨ga, 0, none⟩) (some ⟨ge, 0, none⟩) na ca 5 capE env la T pv (Nat.lt_of_lt_of_le h0 (Nat.le_trans hB HB5.out.size)) (Nat.le_refl _) (OwnT.reads Ra5.out) (by omega) (OwnI.reads Re5.out) (by omega) (hE.below (HB5.out.mono hB) h0)).mono ?_
      rintro e w6 ⟨rfl, hb⟩
      have HB6 := Lib.hid (HB5.out.trans (hb.mono HB5.out.size))
      have Ra6 := Lib.hid (own_below' Ra5.out hb)
      have Rn6 := Lib.hid (own_below' Rn5.out hb)
      have Rv6 := Lib.hid (own_below' Rv5.out hb)
      have Re6 := Lib.hid (own_below' Re5.out hb)
      clear hb Ra5 Rn5 Rv5 Re5 HB5
      rw [HX.out]
      have hcn := own_capG Rn6.out
      go_wp2_with fail
      refine (implNormEval_any w6 w6.heap.size A2 nf c2 fa (some ⟨ge, 0, none⟩) 5 capE env (Nat.le_refl _) (OwnA.reads Rn6.out) (by omega) hcn (OwnI.reads Re6.out) (by omega)).mono ?_
      rintro e w7 ⟨rfl, hb⟩
      have HB7 := Lib.hid (HB6.out.trans (hb.mono HB6.out.size))
      have Ra7 := Lib.hid (own_below' Ra6.out hb)
      have Rn7 := Lib.hid (own_below' Rn6.out hb)
      have Rv7 := Lib.hid (own_below' Rv6.out hb)
      have Re7 := Lib.hid (own_below' Re6.out hb)
      clear hb Ra6 Rn6 Rv6 Re6 HB6
      rw [HY.out]
      obtain ⟨X, hX⟩ : ∃ X, Nm.value env fa = X := ⟨_, rfl⟩
      rw [hX]
      have hxx : (X == X) = true := by simp
      clear hX HX HY hcn
      go_wp2_with fail
      refine (rest5_any w7 B A n c (hb.below (HB7.out.mono hB)) hn hnc).mono ?_
      rintro e w' ⟨A', n', c', rfl, hbr, hn', rfl⟩
      go_wp2_with fail
      refine (drawNormFree_any w7 B A' n' c' (Nat.le_trans hB HB7.out.size) hbr hn').mono ?_
      rintro e w8 ⟨gb, nb, cb, lb, rfl, hnb, hob, hb2⟩
      have HB8 := Lib.hid (HB7.out.trans (hb2.mono HB7.out.size))
      have Ra8 := Lib.hid (own_below' Ra7.out hb2)
      have Rn8 := Lib.hid (own_below' Rn7.out hb2)
      have Rv8 := Lib.hid (own_below' Rv7.out hb2)
      have Re8 := Lib.hid (own_below' Re7.out hb2)
      have Rb8 := Lib.hid (own_base (base' := w.heap.size) hob HB7.out.size)
      clear hb2 Ra7 Rn7 Rv7 Re7 HB7
      clear hob hbr hn'
      cases hg : Nm.freeR lb with
      | none =>
        have HG := Lib.hid hg
        clear hg
        go_wp2_with fail
        refine (implNormFree_any w8 w8.heap.size (some ⟨gb, 0, none⟩) nb cb lb T pv (Nat.lt_of_lt_of_le h0 (Nat.le_trans hB HB8.out.size)) (Nat.le_refl _) (OwnT.reads Rb8.out) (by omega) (hE.below (HB8.out.mono hB) h0)).mono ?_
        rintro e w9 ⟨A9, c9, rfl, ho, hb⟩
        have HB9 := Lib.hid (HB8.out.trans (hb.mono HB8.out.size))
        have Ra9 := Lib.hid (own_below' Ra8.out hb)
        have Rn9 := Lib.hid (own_below' Rn8.out hb)
        have Rv9 := Lib.hid (own_below' Rv8.out hb)
        have Re9 := Lib.hid (own_below' Re8.out hb)
        have Rb9 := Lib.hid (own_below' Rb8.out hb)
        rw [HG.out] at ho ⊢
        simp only [Option.getD_none, Option.isSome_none, List.length_nil] at ho ⊢
        have Rm9 := Lib.hid (own_base (base' := w.heap.size) ho HB8.out.size)
        clear hb Ra8 Rn8 Rv8 Re8 Rb8 HB8
        clear ho
        go_wp2
        go_ret
        exact ⟨rfl, HB9.out⟩
      | some fb =>
        have HG := Lib.hid hg
        have hm6 := Nm.freeR_len lb
        rw [hg] at hm6
        simp only [Option.getD_some] at hm6
        obtain ⟨ng, hng⟩ : ∃ ng, fb.length = ng := ⟨_, rfl⟩
        rw [hng] at hm6
        have NG := Lib.hid hng
        clear hg hng
        have EQ := Lib.hid (Dc.free_eq HF.out HG.out)
        go_wp2_with fail
        refine (implNormFree_any w8 w8.heap.size (some ⟨gb, 0, none⟩) nb cb lb T pv (Nat.lt_of_lt_of_le h0 (Nat.le_trans hB HB8.out.size)) (Nat.le_refl _) (OwnT.reads Rb8.out) (by omega) (hE.below (HB8.out.mono hB) h0)).mono ?_
        rintro e w9 ⟨A9, c9, rfl, ho, hb⟩
        have HB9 := Lib.hid (HB8.out.trans (hb.mono HB8.out.size))
        have Ra9 := Lib.hid (own_below' Ra8.out hb)
        have Rn9 := Lib.hid (own_below' Rn8.out hb)
        have Rv9 := Lib.hid (own_below' Rv8.out hb)
        have Re9 := Lib.hid (own_below' Re8.out hb)
        have Rb9 := Lib.hid (own_below' Rb8.out hb)
        rw [HG.out] at ho ⊢
        simp only [Option.getD_some, Option.isSome_some] at ho ⊢
        rw [NG.out] at ho ⊢
        have Rm9 := Lib.hid (own_base (base' := w.heap.size) ho HB8.out.size)
        clear hb Ra8 Rn8 Rv8 Re8 Rb8 HB8
        clear ho
        go_wp2_with fail
        refine (implLevelEq_any w9 w9.heap.size (some ⟨ga, 0, none⟩) na ca la (some ⟨gb, 0, none⟩) nb cb lb T pv (Nat.lt_of_lt_of_le h0 (Nat.le_trans hB HB9.out.size)) (Nat.le_refl _) (OwnT.reads Ra9.out) (by omega) (OwnT.reads Rb9.out) (by omega) (hE.below (HB9.out.mono hB) h0)).mono ?_
        rintro e w10 ⟨rfl, hb⟩
        have HB10 := Lib.hid (HB9.out.trans (hb.mono HB9.out.size))
        have Ra10 := Lib.hid (own_below' Ra9.out hb)
        have Rn10 := Lib.hid (own_below' Rn9.out hb)
        have Rv10 := Lib.hid (own_below' Rv9.out hb)
        have Re10 := Lib.hid (own_below' Re9.out hb)
        have Rb10 := Lib.hid (own_below' Rb9.out hb)
        have Rm10 := Lib.hid (own_below' Rm9.out hb)
        clear hb Ra9 Rn9 Rv9 Re9 Rb9 Rm9 HB9
        rw [EQ.out]
        go_wp2_with fail
        refine (sameAtoms_any w10 w10.heap.size A2 A9 nf ng c2 c9 fa fb (Nat.le_refl _) (OwnA.reads Rn10.out) (OwnA.reads Rm10.out) (by omega) (by omega)).mono ?_
        rintro e w11 ⟨rfl, hb⟩
        have HB11 := Lib.hid (HB10.out.trans (hb.mono HB10.out.size))
        have Ra11 := Lib.hid (own_below' Ra10.out hb)
        have Rn11 := Lib.hid (own_below' Rn10.out hb)
        have Rv11 := Lib.hid (own_below' Rv10.out hb)
        have Re11 := Lib.hid (own_below' Re10.out hb)
        have Rb11 := Lib.hid (own_below' Rb10.out hb)
        have Rm11 := Lib.hid (own_below' Rm10.out hb)
        clear hb Ra10 Rn10 Rv10 Re10 Rb10 Rm10 HB10
        have hdd : (decide (fa = fb) == decide (fa = fb)) = true := by simp
        generalize decide (fa = fb) = dd at hdd ⊢
        go_wp2
        go_ret
        exact ⟨rfl, HB11.out⟩
end Go.Proofs.YtghoofgfimeedaaDoor
