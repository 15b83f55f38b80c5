/- The reference model's LevelOk, LevelEval and LevelOff, for every argument; the program's LevelOff. -/
/- ArenaEval of the model. -/
import Derived.Test.YtfmhmnpmdjpmeaaDoorApI2
import Derived.Test.YtfmhmnpmdjpmeaaDoorNdKpI
import Derived.Test.YtfmhmnpmdjpmeaaDoorCsMath3

namespace Go.Proofs.YtfmhmnpmdjpmeaaDoor
open Go.RowKit

set_option maxHeartbeats 400000 in
theorem takes_any (op : Int) (w : World) :
    Calls Tryd.prog 52 #[.int .i64 op] w fun e w' => e = .returned (.int .i64 (Lv.takes op)) ∧ w = w' := by
  by_cases h1 : op = 1
  · subst h1
    go_enter Tryd.func52, Tryd.ntmps52
    go_wp2
    go_ret
    exact ⟨ret_int (by decide), rfl⟩
  · have e1 : (op == 1) = false := by simpa using h1
    by_cases h2 : op = 2
    · subst h2
      go_enter Tryd.func52, Tryd.ntmps52
      go_wp2
      go_ret
      exact ⟨ret_int (by decide), rfl⟩
    · have e2 : (op == 2) = false := by simpa using h2
      by_cases h3 : op = 3
      · subst h3
        go_enter Tryd.func52, Tryd.ntmps52
        go_wp2
        go_ret
        exact ⟨ret_int (by decide), rfl⟩
      · have e3 : (op == 3) = false := by simpa using h3
        have HT : Hid (Lv.takes op = 0) := by show Lv.takes op = 0; simp [Lv.takes, h1, h2, h3]
        clear h1 h2 h3
        go_enter Tryd.func52, Tryd.ntmps52
        go_wp2
        go_ret
        exact ⟨by rw [HT.out]; rfl, rfl⟩

theorem hts_bd {l : List (Int × Int)} {m : Int} (h : Lv.hts l 0 = some m) : 0 ≤ m ∧ m ≤ l.length := by
  have H : ∀ (l : List (Int × Int)) (n m : Int), 0 ≤ n → Lv.hts l n = some m → 0 ≤ m ∧ m ≤ n + l.length := by
    intro l
    induction l with
    | nil => intro n m hn h; cases h; simp; omega
    | cons t r ih =>
      intro n m hn h
      simp only [Lv.hts] at h
      split at h
      · rename_i hc
        have hb := Lv.takes_bd t.1
        have := ih _ m (by omega) h
        simp
        omega
      · cases h
  have := H l 0 m (by omega) h
  omega

theorem hts_one (t : Int × Int) (m : Int) : Lv.hts [t] m = if Lv.tkOk t = true ∧ Lv.takes t.1 ≤ m then some (m - Lv.takes t.1 + 1) else none := by
  simp only [Lv.hts]

set_option maxRecDepth 100000 in
set_option maxHeartbeats 1600000 in
theorem specOk_any (w : World) (B : Nat) (A : Option Addr) (n c : Nat) (l : List (Int × Int)) (hB : B ≤ w.heap.size) (hl : TokR w B A n l) (hn : (n : Int) ≤ 140737488355328) :
    Calls Tryd.prog 51 #[.slice A n c] w fun e w' => e = .returned (.bool (Lv.levelOk l)) ∧ Below w.heap.size w w' := by
  by_cases h24 : 1 ≤ n ∧ n ≤ 24
  · obtain ⟨h1, h2⟩ := h24
    have d1 : decide ((n : Int) < 1) = false := by simp; omega
    have d2 : decide ((24 : Int) < (n : Int)) = false := by simp; omega
    obtain ⟨b, off, rfl, hb, hc⟩ := hl.2 (by omega)
    have HC := Lib.hid hc
    have HL := Lib.hid hl.1
    clear hc hl
    go_enter Tryd.func51, Tryd.ntmps51
    go_wp2
    go_loopw [3, 4] (fun m i wr => ∃ (k : Nat) (m' : Int), k ≤ n ∧ i = .int .i64 k ∧ m = .int .i64 m' ∧ Hid (Lv.hts (l.take k) 0 = some m') ∧ Below w.heap.size w wr) (fun _ i _ => n - (intOf i).toNat)
    case atStart => exact ⟨0, 0, Nat.zero_le _, rfl, rfl, rfl, Below.refl _ _⟩
    case round =>
      obtain ⟨k, m, hk, rfl, rfl, HH, hbel⟩ := hrel
      have hmb := hts_bd HH.out
      have hm0 := hmb.1
      have hm1 : m ≤ 24 := by
        have := hmb.2
        have h3 := HL.out
        simp at this
        omega
      clear hmb
      by_cases hlt : k < n
      · have hcell := HC.out k hlt
        have HS := Lib.hid (Lv.hts_take_succ l k (by rw [HL.out]; exact hlt) 0)
        rw [HH.out, Option.bind_some] at HS
        generalize l.getD k (0, 0) = t at hcell HS
        obtain ⟨op, N⟩ := t
        rw [hts_one] at HS
        obtain ⟨c1, c2⟩ := hcell
        have k1 := (hbel.cell (p := ⟨b, off + k * 2, none⟩) (by show b < _; omega)).trans c1
        have k2 := (hbel.cell (p := ⟨b, off + k * 2 + 1, none⟩) (by show b < _; omega)).trans c2
        have htk := Lv.takes_bd op
        have ht0 := htk.1
        have ht2 := htk.2
        clear c1 c2 htk
        have hszr := hbel.size
        have hbA := hbel.alloc hszr (.cells #[.int .i64 op, .int .i64 N] 70)
        have HBA := Lib.hid hbA
        clear hbA
        have fail_of : ¬ (Lv.tkOk (op, N) = true ∧ Lv.takes op ≤ m) → Hid (Lv.levelOk l = false) := by
          intro hno
          have h := HS.out
          rw [if_neg hno] at h
          have h2 := Lv.hts_none_of_take h
          show Lv.levelOk l = false
          simp [Lv.levelOk, h2]
        by_cases g0 : op < 0
        · have HF := fail_of (by intro h; have h := h.1; simp [Lv.tkOk] at h; omega)
          clear fail_of
          go_wp2
          go_ret
          exact ⟨by rw [HF.out]; rfl, HBA.out⟩
        · have g0' : 0 ≤ op := by omega
          by_cases g4 : 4 < op
          · have HF := fail_of (by intro h; have h := h.1; simp [Lv.tkOk] at h; omega)
            clear fail_of
            go_wp2
            go_ret
            exact ⟨by rw [HF.out]; rfl, HBA.out⟩
          · have g4' : op ≤ 4 := by omega
            by_cases hN : N < 0 ∨ 5 ≤ N ∨ (op ≠ 4 ∧ N ≠ 0)
            · have HF := fail_of (by intro h; have h := h.1; simp [Lv.tkOk] at h; omega)
              clear fail_of
              by_cases e4 : op = 4
              · subst e4
                by_cases hN0 : N < 0
                · clear hN
                  go_wp2
                  go_ret
                  exact ⟨by rw [HF.out]; rfl, HBA.out⟩
                · have hN5 : 5 ≤ N := by omega
                  clear hN hN0
                  go_wp2
                  go_ret
                  exact ⟨by rw [HF.out]; rfl, HBA.out⟩
              · have b4 : (op != 4) = true := by simpa using e4
                by_cases z : N = 0
                · omega
                · have bz : (N != 0) = true := by simpa using z
                  clear hN e4 z
                  go_wp2
                  go_ret
                  exact ⟨by rw [HF.out]; rfl, HBA.out⟩
            · have hN0 : 0 ≤ N := by omega
              have hN5 : N < 5 := by omega
              have hok : Lv.tkOk (op, N) = true := by simp [Lv.tkOk]; omega
              have HOK := Lib.hid hok
              clear hok
              by_cases htm : Lv.takes op ≤ m
              · have HS2 : Hid (Lv.hts (l.take (k + 1)) 0 = some (m - Lv.takes op + 1)) := by
                  have h := HS.out
                  rw [if_pos ⟨HOK.out, htm⟩] at h
                  exact h
                have HLe := Lib.hid htm
                clear fail_of
                by_cases e4 : op = 4
                · subst e4
                  clear hN
                  go_wp2_with fail
                  refine (takes_any _ _).mono ?_
                  rintro e w' ⟨rfl, rfl⟩
                  go_wp2_with fail
                  refine (takes_any _ _).mono ?_
                  rintro e w' ⟨rfl, rfl⟩
                  go_wp2
                  go_roundw
                  case rel => exact ⟨k + 1, m - Lv.takes 4 + 1, by omega, by go_num, by go_num, HS2.out, HBA.out⟩
                  case measure => simp [intOf]; omega
                · have b4 : (op != 4) = true := by simpa using e4
                  obtain rfl : N = 0 := by omega
                  clear hN e4
                  go_wp2_with fail
                  refine (takes_any _ _).mono ?_
                  rintro e w' ⟨rfl, rfl⟩
                  go_wp2_with fail
                  refine (takes_any _ _).mono ?_
                  rintro e w' ⟨rfl, rfl⟩
                  go_wp2
                  go_roundw
                  case rel => exact ⟨k + 1, m - Lv.takes op + 1, by omega, by go_num, by go_num, HS2.out, HBA.out⟩
                  case measure => simp [intOf]; omega
              · have HF := fail_of (by intro h; exact htm h.2)
                have htm' : m < Lv.takes op := by omega
                clear fail_of htm
                by_cases e4 : op = 4
                · subst e4
                  clear hN
                  go_wp2_with fail
                  refine (takes_any _ _).mono ?_
                  rintro e w' ⟨rfl, rfl⟩
                  go_wp2
                  go_ret
                  exact ⟨by rw [HF.out]; rfl, HBA.out⟩
                · have b4 : (op != 4) = true := by simpa using e4
                  obtain rfl : N = 0 := by omega
                  clear hN e4
                  go_wp2_with fail
                  refine (takes_any _ _).mono ?_
                  rintro e w' ⟨rfl, rfl⟩
                  go_wp2
                  go_ret
                  exact ⟨by rw [HF.out]; rfl, HBA.out⟩
      · have HF : Hid (Lv.levelOk l = (m == 1)) := by
          have h := HH.out
          have hln := HL.out
          rw [List.take_of_length_le (by omega)] at h
          have h1' : 1 ≤ l.length := by omega
          have h2' : l.length ≤ 24 := by omega
          show Lv.levelOk l = (m == 1)
          simp only [Lv.levelOk, h, h1', h2', decide_true, Bool.true_and, Option.some.injEq]
          by_cases e : m = 1 <;> simp [e]
        go_wp2
        go_ret
        exact ⟨by rw [HF.out]; rfl, hbel⟩
  · have HF : Hid (Lv.levelOk l = false) := by
      have hln := hl.1
      show Lv.levelOk l = false
      rw [Bool.eq_false_iff]
      intro hk
      simp [Lv.levelOk] at hk
      omega
    by_cases h0 : n < 1
    · obtain rfl : n = 0 := by omega
      clear hl
      go_enter Tryd.func51, Tryd.ntmps51
      go_wp2
      go_ret
      exact ⟨by rw [HF.out]; rfl, Below.refl _ _⟩
    · have h1 : 24 < n := by omega
      clear hl h24
      go_enter Tryd.func51, Tryd.ntmps51
      go_wp2
      go_ret
      exact ⟨by rw [HF.out]; rfl, Below.refl _ _⟩
end Go.Proofs.YtfmhmnpmdjpmeaaDoor

namespace Go.Proofs.YtfmhmnpmdjpmeaaDoor
open Go.RowKit

theorem ownI_spot {w : World} {base g n c i : Nat} {l : List Int} (h : OwnI w base (some ⟨g, 0, none⟩) n c l) (hi : i < n) : w.cell? ⟨g, i, none⟩ = some (.int .i64 (l.getD i 0)) := by
  obtain ⟨b, off, hA, _, hc⟩ := (OwnI.reads h).2 (by omega)
  rcases h.2 with ⟨h0, _⟩ | ⟨g', cap, cur, hv, hb, hgg, _⟩
  · cases h0
  · injection hA with e2
    injection e2 with e2 e3
    subst e2; subst e3
    have := hc i hi
    rwa [Nat.zero_add] at this
theorem ownI_some {w : World} {base n : Nat} {v : Value} {xs : List Value} (h : w.ownsRow base 3 1 v (n + 1) xs) : ∃ g c, v = .slice (some ⟨g, 0, none⟩) (n + 1) c := by
  rcases h.2 with ⟨_, h⟩ | ⟨g, c, _, h, _⟩
  · omega
  · exact ⟨g, c, h⟩

end Go.Proofs.YtfmhmnpmdjpmeaaDoor
