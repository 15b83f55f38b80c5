/- The draw of NormLe. -/
import Derived.Test.YtgbdojenenfgfaaDrawN2
import Derived.Test.YtgbdojenenfgfaaNMax
namespace Go.Proofs.Ytgbdojenenfgfaa
open Go.RowKit

/-- a row of atoms that a draw has left: few, and to be read -/
def AtomD (w : World) (base : Nat) (A : Option Addr) (c : Nat) (l : List (Int × Int)) : Prop :=
  OwnA w base A l.length c l ∧ l.length ≤ c ∧ l.length ≤ 7
theorem own_capA {w : World} {base n c : Nat} {A : Option Addr} {l : List (Int × Int)} (h : OwnA w base A n c l) : n ≤ c := by
  rcases h.2 with ⟨h0, h1⟩ | ⟨g', cap, cur, hv, hb, hh, hnc, _⟩
  · omega
  · injection hv with _ _ hv3
    omega
/-- what the draw of two norms gives -/
def DrawTwo (w : World) (e : Ending) (w' : World) : Prop :=
  ∃ A1 c1 l1 A2 c2 l2, e = .returned (.tuple #[.slice A1 l1.length c1, .slice A2 l2.length c2]) ∧ AtomD w' w.heap.size A1 c1 l1 ∧ AtomD w' w.heap.size A2 c2 l2 ∧ Below w.heap.size w w'

set_option maxRecDepth 100000 in
set_option maxHeartbeats 2000000 in
theorem drawNormLe_any (w : World) (B : Nat) (A : Option Addr) (n c : Nat) (hB : B ≤ w.heap.size) (hb : BytR w B A n) (hn : n ≤ 1048576) :
    Calls Try.prog 23 #[.slice A n c] w (DrawTwo w) := by
  go_enter Try.func23, Try.ntmps23
  go_wp2_with fail
  refine (open_any w B A n c hB hb hn).mono ?_
  rintro e w1 ⟨rfl, hb1, hc1⟩
  have hs1 := hb1.size
  have hlt := hc1.lt
  go_wp2_with fail
  refine (badNorm_any w1 w.heap.size A n c 0 hc1 (by omega) hn).mono ?_
  rintro e w2 ⟨ga, ca, la, rfl, ha1, ha2, hoa, hc2, hk2⟩
  have hs2 := hk2.size
  go_wp2_with fail
  refine (badNorm_any w2 w.heap.size A n c _ hc2 (by omega) hn).mono ?_
  rintro e w3 ⟨gb, cb, lb, rfl, hb1', hb2', hob, hc3, hk3⟩
  have hoa3 := Kp.own hoa hk3 (by omega)
  have hk13 := hk2.trans hk3
  clear hoa hk2 hk3 hc1 hc2
  go_wp2_with fail
  refine (once_any w3 w.heap.size A n c _ 2 hc3 (by omega) (by omega) hn).mono ?_
  rintro e w4 ⟨r, rfl, hc4, hk4⟩
  have hoa4 := own_base (base' := w.heap.size) (Kp.own hoa3 hk4 (by omega)) hs1
  have hob4 := own_base (base' := w.heap.size) (Kp.own hob hk4 (by omega)) (Nat.le_trans hs1 hs2)
  have hb4 := Kp.below hb1 (hk13.trans hk4) (Nat.le_refl _) hs1
  have hs4 := hb4.size
  have hca := own_capA hoa4
  have hcb := own_capA hob4
  clear hoa3 hob hk13 hk4 hc3 hc4 hb1
  have HA := Lib.hid hoa4
  have HBb := Lib.hid hob4
  have HB4 := Lib.hid hb4
  cases r with
  | false =>
    clear hoa4 hob4 hb4
    go_wp2
    go_ret2
    exact ⟨_, ca, la, _, cb, lb, rfl, ⟨HA.out, hca, by omega⟩, ⟨HBb.out, hcb, by omega⟩, HB4.out⟩
  | true =>
    clear hoa4 hob4 hb4
    go_wp2_with fail
    refine (specNormMax_any w4 w4.heap.size _ la.length ca la _ lb.length cb lb (Nat.le_refl _) (OwnA.reads HA.out) (by omega) (OwnA.reads HBb.out) (by omega)).mono ?_
    rintro e w5 ⟨Am, cm, rfl, hom, hb5⟩
    have hlen := Nm.normMax_len la lb
    have hcm := own_capA hom
    have HM := Lib.hid (own_base (base' := w.heap.size) hom hs4)
    have HA5 := Lib.hid (own_below' HA.out hb5)
    have HB5 := Lib.hid (own_below' HBb.out hb5)
    have HBB := Lib.hid (HB4.out.trans (hb5.mono hs4))
    clear hom hb5
    cases hR : Nm.normMax la lb with
    | none =>
      rw [hR] at HM hcm
      clear hR
      go_wp2
      go_ret2
      exact ⟨_, ca, la, _, cb, lb, rfl, ⟨HA5.out, hca, by omega⟩, ⟨HB5.out, hcb, by omega⟩, HBB.out⟩
    | some m =>
      rw [hR] at HM hcm hlen
      clear hR
      go_wp2
      go_ret2
      exact ⟨_, ca, la, _, cm, m, rfl, ⟨HA5.out, hca, by omega⟩, ⟨HM.out, hcm, by simpa using Nat.le_trans hlen (by omega)⟩, HBB.out⟩
end Go.Proofs.Ytgbdojenenfgfaa
