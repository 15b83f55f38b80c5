/- The draw of NormLe. -/
/- The cursor's size; the draw of NormMax. -/
import Derived.Test.YtmmhcpigcdlnmaaDrawN2
import Derived.Test.YtmmhcpigcdlnmaaNMax

namespace Go.Proofs.Ytmmhcpigcdlnmaa
open Go.RowKit

/-- a row of atoms that a draw has left: few, and to be read -/
def AtomD (w : World) (base : Nat) (A : Option Addr) (c : Nat) (l : List (Int × Int)) : Prop :=
  OwnA w base A l.length c l ∧ l.length ≤ c ∧ l.length ≤ 7
theorem own_capA {w : World} {base n c : Nat} {A : Option Addr} {l : List (Int × Int)} (h : OwnA w base A n c l) : n ≤ c := by
  rcases h.2 with ⟨h0, h1⟩ | ⟨g', cap, cur, hv, hb, hh, hnc, _⟩
  · omega
  · injection hv with _ _ hv3
    omega
/-- what the draw of two norms gives -/
def DrawTwo (w : World) (e : Ending) (w' : World) : Prop :=
  ∃ A1 c1 l1 A2 c2 l2, e = .returned (.tuple #[.slice A1 l1.length c1, .slice A2 l2.length c2]) ∧ AtomD w' w.heap.size A1 c1 l1 ∧ AtomD w' w.heap.size A2 c2 l2 ∧ Below w.heap.size w w'

end Go.Proofs.Ytmmhcpigcdlnmaa

namespace Go.Proofs.Ytmmhcpigcdlnmaa
open Go.RowKit

set_option maxRecDepth 100000 in
set_option maxHeartbeats 1600000 in
theorem size8_any (w : World) (bc : Nat) (A : Option Addr) (n c K : Nat) (hc : Cur w bc A n c K) (hK : K ≤ 900000) (hn : n ≤ 1048576) :
    Calls Try.prog 101 #[.pointer (some ⟨bc, 0, none⟩), .int .i64 8] w fun e w' => ∃ r : Nat, e = .returned (.int .i64 r) ∧ r ≤ 8 ∧ Cur w' bc A n c (K + 1) ∧ Kp bc w w' := by
  have hcast : (n : Int) / 8 = ((n / 8 : Nat) : Int) := by omega
  have hq : n / 8 ≤ 131072 := by omega
  generalize n / 8 = q at hcast hq
  obtain ⟨hby, p, s, hblk, hp, hs⟩ := hc
  have k0 : w.cell? ⟨bc, 0, none⟩ = some (.slice A n c) := hblk.cell 0
  have HC : Hid (Cur w bc A n c K) := ⟨hby, p, s, hblk, hp, hs⟩
  clear hby hblk hp hs
  by_cases h8 : ¬ (1 + q < 8)
  · have h8' : ¬ (1 + (q : Int) < 8) := by omega
    go_enter Try.func101, Try.ntmps101
    go_wp2_with fail
    refine (pick_any w bc A n c K 9 HC.out (by omega) (by omega) hn).mono ?_
    rintro e w1 ⟨r, rfl, hr, hc1, hk1⟩
    go_wp2
    go_ret
    exact ⟨r, rfl, by omega, hc1, hk1⟩
  · have h8' : 1 + (q : Int) < 8 := by omega
    have hp := pick_any w bc A n c K (q + 2) HC.out (by omega) (by omega) hn
    have e1 : ((q + 2 : Nat) : Int) = 1 + (q : Int) + 1 := by omega
    rw [e1] at hp
    have HP := Lib.hid hp
    clear hp e1
    go_enter Try.func101, Try.ntmps101
    go_wp2_with fail
    refine HP.out.mono ?_
    rintro e w1 ⟨r, rfl, hr, hc1, hk1⟩
    go_wp2
    go_ret
    exact ⟨r, rfl, by omega, hc1, hk1⟩

end Go.Proofs.Ytmmhcpigcdlnmaa
