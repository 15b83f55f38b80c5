/- The model's cursor: raw numbers and leaves. -/
import Derived.Test.YtgbdojenenfgfaaCur
import Derived.Maps.Range
namespace Go.Proofs.Ytgbdojenenfgfaa
open Go.RowKit

theorem BytR.grown {w w' : World} {B : Nat} {A : Option Addr} {n : Nat} {row : Option Nat} (h : BytR w B A n) (hg : w.grownBy w' row) (hB : B ≤ w.heap.size) (hr : ∀ k, row = some k → B ≤ k) : BytR w' B A n :=
  h.below ((Below.refl B w).grown hg hB hr)
theorem Cur.grown {w w' : World} {bc : Nat} {A : Option Addr} {n c K : Nat} {row : Option Nat} (h : Cur w bc A n c K) (hg : w.grownBy w' row) (hr : ∀ k, row = some k → bc < k) : Cur w' bc A n c K := by
  have hlt := h.lt
  obtain ⟨h1, p, s, hblk, hp, hs⟩ := h
  exact ⟨h1.grown hg (by omega) (fun k hk => by have := hr k hk; omega), p, s, hblk.grown hg (fun he => by have := hr bc he.symm; omega), hp, hs⟩
theorem Cur.alloc {w : World} {bc : Nat} {A : Option Addr} {n c K : Nat} (h : Cur w bc A n c K) (o : Obj) : Cur (w.alloc o) bc A n c K := h.below ((Below.refl _ _).alloc (Nat.le_refl _) o)
theorem Kp.alloc {bc : Nat} {a b : World} (h : Kp bc a b) (o : Obj) : Kp bc a (b.alloc o) := h.trans (Kp.of_below ((Below.refl _ _).alloc (Nat.le_refl _) o))
theorem Kp.blk {bc g : Nat} {a b : World} {t : TypeId} {cs : Array Value} (hb : Blk a g t cs) (h : Kp bc a b) (hne : g ≠ bc) : Blk b g t cs := hb.grown h (fun he => by injection he with he; exact hne he)
theorem Kp.more {bc : Nat} {a b c : World} {row : Option Nat} (h : Kp bc a b) (k : b.grownBy c row) (hr : ∀ j, row = some j → a.heap.size ≤ j) : Kp bc a c := h.andThen k (fun j hj => .inl (hr j hj))

set_option maxRecDepth 100000 in
set_option maxHeartbeats 2000000 in
theorem raw_any (w : World) (bc : Nat) (A : Option Addr) (n c K : Nat) (hc : Cur w bc A n c K) (hK : K ≤ 900000) (hn : n ≤ 1048576) :
    Calls Try.prog 41 #[.pointer (some ⟨bc, 0, none⟩)] w fun e w' => ∃ r : Int, e = .returned (.int .i64 r) ∧ Cur w' bc A n c (K + 2) ∧ Kp bc w w' := by
  go_enter Try.func41, Try.ntmps41
  go_wp2_with fail
  refine (pick_any w bc A n c K 8 hc (by omega) (by omega) hn).mono ?_
  rintro e w1 ⟨r, rfl, hr, hc1, hk1⟩
  by_cases r0 : r = 0
  · subst r0
    go_wp2_with fail
    refine (pick_any w1 bc A n c (K + 1) 256 hc1 (by omega) (by omega) hn).mono ?_
    rintro e w2 ⟨x, rfl, hx, hc2, hk2⟩
    go_wp2
    go_ret
    exact ⟨_, rfl, hc2, hk1.trans hk2⟩
  · by_cases r1 : r = 1
    · subst r1
      go_wp2_with fail
      refine (pick_any _ bc A n c (K + 1) 8 (hc1.alloc _) (by omega) (by omega) hn).mono ?_
      rintro e w2 ⟨x, rfl, hx, hc2, hk2⟩
      have hbk := Kp.blk (Blk.made w1 _ _) hk2 (by have := hc1.lt; omega)
      obtain ⟨v, hv⟩ : ∃ v, w2.cell? ⟨w1.heap.size, x, none⟩ = some (.int .i64 v) := by
        have hx8 : x = 0 ∨ x = 1 ∨ x = 2 ∨ x = 3 ∨ x = 4 ∨ x = 5 ∨ x = 6 ∨ x = 7 := by omega
        rcases hx8 with rfl | rfl | rfl | rfl | rfl | rfl | rfl | rfl <;> exact ⟨_, hbk.cell _⟩
      have hx8 : x < 8 := by omega
      have HK := Lib.hid (hk1.trans ((Kp.of_below ((Below.refl _ _).alloc (Nat.le_refl _) _)).trans hk2))
      clear hbk hk2
      go_wp2
      go_ret
      exact ⟨_, rfl, hc2, HK.out⟩
    · have e0 : ¬ ((r : Int) = 0) := by omega
      have e1 : ¬ ((r : Int) = 1) := by omega
      go_wp2_with fail
      refine (pick_any w1 bc A n c (K + 1) 14 hc1 (by omega) (by omega) hn).mono ?_
      rintro e w2 ⟨x, rfl, hx, hc2, hk2⟩
      go_wp2
      go_ret
      exact ⟨_, rfl, hc2, hk1.trans hk2⟩

end Go.Proofs.Ytgbdojenenfgfaa
