/- The reference model's LevelOk, LevelEval and LevelOff, for every argument; the program's LevelOff. -/
import Derived.Test.YtmmhcpigcdlnmaaLOk

namespace Go.Proofs.Ytmmhcpigcdlnmaa
open Go.RowKit

theorem hts_bd {l : List (Int × Int)} {m : Int} (h : Lv.hts l 0 = some m) : 0 ≤ m ∧ m ≤ l.length := by
  have H : ∀ (l : List (Int × Int)) (n m : Int), 0 ≤ n → Lv.hts l n = some m → 0 ≤ m ∧ m ≤ n + l.length := by
    intro l
    induction l with
    | nil => intro n m hn h; cases h; simp; omega
    | cons t r ih =>
      intro n m hn h
      simp only [Lv.hts] at h
      split at h
      · rename_i hc
        have hb := Lv.takes_bd t.1
        have := ih _ m (by omega) h
        simp
        omega
      · cases h
  have := H l 0 m (by omega) h
  omega

theorem hts_one (t : Int × Int) (m : Int) : Lv.hts [t] m = if Lv.tkOk t = true ∧ Lv.takes t.1 ≤ m then some (m - Lv.takes t.1 + 1) else none := by
  simp only [Lv.hts]

end Go.Proofs.Ytmmhcpigcdlnmaa
