/- LevelSubst of the program and of the reference model. -/
import Derived.Test.YtgbdojenenfgfaaDoorLvls
namespace Go.Proofs.YtgbdojenenfgfaaDoor
open Go.RowKit

theorem piece_len {ls : List (List (Int × Int))} {t : Int × Int} {p : List (Int × Int)} (h : ls.all Lv.levelOk = true) (h0 : 0 ≤ t.2) (hp : piece ls t = some p) : 1 ≤ p.length ∧ p.length ≤ 24 := by
  unfold piece at hp
  split at hp
  · split at hp
    · rename_i h1 h2
      have := all_get (k := t.2.toNat) h (by omega)
      injection hp with hp
      rw [hp] at this
      exact ok_len' this
    · cases hp
  · injection hp with hp
    subst hp
    simp
where
  ok_len' {l : List (Int × Int)} (h : Lv.levelOk l = true) : 1 ≤ l.length ∧ l.length ≤ 24 := by
    simp [Lv.levelOk] at h
    omega
theorem level_len {l : List (Int × Int)} {n : Nat} (h : Lv.levelOk l = true) (hn : l.length = n) : 1 ≤ n ∧ n ≤ 24 := by
  simp [Lv.levelOk] at h
  omega

end Go.Proofs.YtgbdojenenfgfaaDoor
