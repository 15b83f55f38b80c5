/- The law FnNorm: the walk, given the draw of its list. -/
import Derived.Test.YtgbdojenenfgfaaDrawN4
import Derived.Test.YtgbdojenenfgfaaFnLe
import Derived.Test.YtgbdojenenfgfaaNOf
namespace Go.Proofs.Ytgbdojenenfgfaa
open Go.RowKit

/-- what the draw of a list of atoms gives -/
def DrawList (w : World) (e : Ending) (w' : World) : Prop :=
  ∃ g cap l, e = .returned (.slice (some ⟨g, 0, none⟩) l.length cap) ∧ l.length ≤ 101 ∧ OwnA w' w.heap.size (some ⟨g, 0, none⟩) l.length cap l ∧ Below w.heap.size w w'
def DrawsList : Prop := ∀ (w : World) (B : Nat) (A : Option Addr) (n c : Nat), B ≤ w.heap.size → BytR w B A n → n ≤ 1048576 → Calls Try.prog 12 #[.slice A n c] w (DrawList w)

set_option maxRecDepth 100000 in
set_option maxHeartbeats 1600000 in
theorem rest_any (w : World) (B : Nat) (A : Option Addr) (n c : Nat) (hb : BytR w B A n) (hn : n ≤ 1048576) (hc : n ≤ c) :
    Calls Try.prog 19 #[.slice A n c] w fun e w' => ∃ A' n' c', e = .returned (.slice A' n' c') ∧ BytR w B A' n' ∧ n' ≤ 1048576 ∧ w = w' := by
  by_cases h0 : n = 0
  · subst h0
    by_cases hcz : c = 0
    · subst hcz
      go_enter Try.func19, Try.ntmps19
      go_wp2
      go_ret
      exact ⟨_, _, _, rfl, (fun h => absurd h (by omega)), by omega, rfl⟩
    · have hcz' : ¬ ((c : Int) = 0) := by omega
      go_enter Try.func19, Try.ntmps19
      go_wp2
      go_ret
      exact ⟨_, _, _, rfl, (fun h => absurd h (by omega)), by omega, rfl⟩
  · obtain ⟨b, off, rfl, hbB, hcs⟩ := hb (by omega)
    have hcast : (n : Int) / 2 = ((n / 2 : Nat) : Int) := by omega
    obtain ⟨q, hq⟩ : ∃ q, n / 2 = q := ⟨_, rfl⟩
    rw [hq] at hcast
    have hqn : q < n := by omega
    have n1 : (q : Int) ≤ (n : Int) := by omega
    have n2 : (n : Int) ≤ (c : Int) := by omega
    have n3 : ¬ (c = q) := by omega
    have HB : Hid (BytR w B (some ⟨b, off + q, none⟩) (n - q)) := fun _ => ⟨b, off + q, rfl, hbB, fun k hk => by
      obtain ⟨x, hx, y⟩ := hcs (q + k) (by omega)
      exact ⟨x, hx, by rw [Nat.add_assoc]; exact y⟩⟩
    clear hcs hq
    go_enter Try.func19, Try.ntmps19
    go_wp2
    go_ret
    exact ⟨some ⟨b, off + q, none⟩, n - q, c - q, by first | rfl | (congr 2 <;> omega), HB.out, by omega, rfl⟩
end Go.Proofs.Ytgbdojenenfgfaa
