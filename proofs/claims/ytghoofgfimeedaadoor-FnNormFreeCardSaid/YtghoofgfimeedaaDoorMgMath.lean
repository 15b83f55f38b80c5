/- Two rows of atoms are compared: slices.Equal, and the model's own look. A parameter is looked for. -/
/- Plain facts: when the residuals of a level do not tell a parameter's sign. -/
import Derived.Test.YtghoofgfimeedaaDoorNOk2
import Derived.Test.YtghoofgfimeedaaDoorOnce4

namespace Go.Proofs.YtghoofgfimeedaaDoor
open Go.RowKit

set_option maxRecDepth 100000 in
set_option maxHeartbeats 2000000 in
theorem l03Same_any (w : World) (B : Nat) (A1 A2 : Option Addr) (n1 n2 c1 c2 : Nat) (l m : List (Int × Int)) (hB : B ≤ w.heap.size) (hl : TokR w B A1 n1 l) (hm : TokR w B A2 n2 m)
    (hn1 : (n1 : Int) ≤ 1048576) (hn2 : (n2 : Int) ≤ 1048576) :
    Calls Tryd.prog 115 #[.slice A1 n1 c1, .slice A2 n2 c2] w fun e w' => e = .returned (.bool (decide (l = m))) ∧ Below w.heap.size w w' := by
  by_cases hne : n1 = n2
  · subst hne
    have en : ((n1 : Int) != (n1 : Int)) = false := by simp
    go_enter Tryd.func115, Tryd.ntmps115
    go_wp2
    go_loopw [5] (fun i wr => ∃ k : Nat, k ≤ n1 ∧ i = .int .i64 k ∧ Agree (0, 0) k l m ∧ Below w.heap.size w wr) (fun i _ => n1 - (intOf i).toNat)
    case atStart => exact ⟨0, Nat.zero_le _, rfl, (fun j hj => absurd hj (by omega)), Below.refl _ _⟩
    case round =>
      obtain ⟨k, hk, rfl, hag, hbel⟩ := hrel
      have HG := Lib.hid hag
      clear hag
      by_cases hlt : k < n1
      · obtain ⟨b, off, rfl, hb, hc⟩ := hl.2 (by omega)
        obtain ⟨x1, x2⟩ := hc k hlt
        obtain ⟨b', off', rfl, hb', hc'⟩ := hm.2 (by omega)
        obtain ⟨y1, y2⟩ := hc' k hlt
        have HL := Lib.hid hl
        have HM := Lib.hid hm
        obtain ⟨t, ht⟩ : ∃ t, l.getD k (0, 0) = t := ⟨_, rfl⟩
        obtain ⟨u, hu⟩ : ∃ u, m.getD k (0, 0) = u := ⟨_, rfl⟩
        rw [ht] at x1 x2
        rw [hu] at y1 y2
        obtain ⟨p, q⟩ := t
        obtain ⟨r, s⟩ := u
        have HT := Lib.hid ht
        have HU := Lib.hid hu
        have k1 := (hbel.cell (p := ⟨b, off + k * 2, none⟩) (by show b < _; omega)).trans x1
        have k2 := (hbel.cell (p := ⟨b, off + k * 2 + 1, none⟩) (by show b < _; omega)).trans x2
        have k3 := (hbel.cell (p := ⟨b', off' + k * 2, none⟩) (by show b' < _; omega)).trans y1
        have k4 := (hbel.cell (p := ⟨b', off' + k * 2 + 1, none⟩) (by show b' < _; omega)).trans y2
        have HB := Lib.hid hbel.drew
        clear x1 x2 y1 y2 hc hc' ht hu hl hm hbel
        have HF : Hid ((p, q) ≠ (r, s) → decide (l = m) = false) := by
          show _ → _
          intro heq
          rw [decide_eq_false_iff_not]
          intro h
          apply heq
          rw [← HT.out, ← HU.out, h]
        by_cases e1 : p = r
        · subst e1
          by_cases e2 : q = s
          · subst e2
            have HA : Hid (Agree (0, 0) (k + 1) l m) := agree_step HG.out (by rw [HT.out, HU.out])
            go_wp2_with fail
            go_region
            go_wp2
            go_roundw
            case rel => exact ⟨k + 1, by omega, by go_num, HA.out, HB.out⟩
            case measure => simp [intOf]; omega
          · have HF2 := Lib.hid (HF.out (by simp [e2]))
            have d2 : (q == s) = false := by simpa using e2
            clear e2
            go_wp2_with fail
            go_region
            go_wp2
            go_ret
            exact ⟨by rw [HF2.out]; rfl, HB.out⟩
        · have HF2 := Lib.hid (HF.out (by simp [e1]))
          have d1 : (p == r) = false := by simpa using e1
          clear e1
          go_wp2_with fail
          go_region
          go_wp2
          go_ret
          exact ⟨by rw [HF2.out]; rfl, HB.out⟩
      · obtain rfl : k = n1 := by omega
        have HF : Hid (decide (l = m) = true) := by
          show _ = _
          rw [decide_eq_true_eq]
          exact agree_all hl.1 hm.1 HG.out
        clear hl hm
        go_wp2
        go_ret
        exact ⟨by rw [HF.out]; rfl, hbel⟩
  · have HF : Hid (decide (l = m) = false) := by
      show _ = _
      rw [decide_eq_false_iff_not]
      intro h
      apply hne
      rw [← hl.1, ← hm.1, h]
    have en : ((n1 : Int) != (n2 : Int)) = true := by simp; omega
    clear hl hm hne
    go_enter Tryd.func115, Tryd.ntmps115
    go_wp2
    go_ret
    exact ⟨by rw [HF.out]; rfl, Below.refl _ _⟩

set_option maxRecDepth 100000 in
set_option maxHeartbeats 2000000 in
theorem slicesEqual_any (w : World) (B : Nat) (A1 A2 : Option Addr) (n1 n2 c1 c2 : Nat) (l m : List (Int × Int)) (hB : B ≤ w.heap.size) (hl : TokR w B A1 n1 l) (hm : TokR w B A2 n2 m)
    (hn1 : (n1 : Int) ≤ 1048576) (hn2 : (n2 : Int) ≤ 1048576) :
    Calls Tryd.prog 79 #[.slice A1 n1 c1, .slice A2 n2 c2] w fun e w' => e = .returned (.bool (decide (l = m))) ∧ Below w.heap.size w w' := by
  by_cases hne : n1 = n2
  · subst hne
    have en : ((n1 : Int) != (n1 : Int)) = false := by simp
    go_enter Tryd.func79, Tryd.ntmps79
    go_wp2
    go_loopw [13] (fun i wr => ∃ k : Nat, k ≤ n1 ∧ i = .int .i64 k ∧ Agree (0, 0) k l m ∧ Below w.heap.size w wr) (fun i _ => n1 - (intOf i).toNat)
    case atStart => exact ⟨0, Nat.zero_le _, rfl, (fun j hj => absurd hj (by omega)), Below.refl _ _⟩
    case round =>
      obtain ⟨k, hk, rfl, hag, hbel⟩ := hrel
      have HG := Lib.hid hag
      clear hag
      by_cases hlt : k < n1
      · obtain ⟨b, off, rfl, hb, hc⟩ := hl.2 (by omega)
        obtain ⟨x1, x2⟩ := hc k hlt
        obtain ⟨b', off', rfl, hb', hc'⟩ := hm.2 (by omega)
        obtain ⟨y1, y2⟩ := hc' k hlt
        have HL := Lib.hid hl
        have HM := Lib.hid hm
        obtain ⟨t, ht⟩ : ∃ t, l.getD k (0, 0) = t := ⟨_, rfl⟩
        obtain ⟨u, hu⟩ : ∃ u, m.getD k (0, 0) = u := ⟨_, rfl⟩
        rw [ht] at x1 x2
        rw [hu] at y1 y2
        obtain ⟨p, q⟩ := t
        obtain ⟨r, s⟩ := u
        have HT := Lib.hid ht
        have HU := Lib.hid hu
        have k1 := (hbel.cell (p := ⟨b, off + k * 2, none⟩) (by show b < _; omega)).trans x1
        have k2 := (hbel.cell (p := ⟨b, off + k * 2 + 1, none⟩) (by show b < _; omega)).trans x2
        have k3 := (hbel.cell (p := ⟨b', off' + k * 2, none⟩) (by show b' < _; omega)).trans y1
        have k4 := (hbel.cell (p := ⟨b', off' + k * 2 + 1, none⟩) (by show b' < _; omega)).trans y2
        have HB := Lib.hid hbel.drew
        clear x1 x2 y1 y2 hc hc' ht hu hl hm hbel
        have HF : Hid ((p, q) ≠ (r, s) → decide (l = m) = false) := by
          show _ → _
          intro heq
          rw [decide_eq_false_iff_not]
          intro h
          apply heq
          rw [← HT.out, ← HU.out, h]
        by_cases e1 : p = r
        · subst e1
          by_cases e2 : q = s
          · subst e2
            have HA : Hid (Agree (0, 0) (k + 1) l m) := agree_step HG.out (by rw [HT.out, HU.out])
            go_wp2_with fail
            go_region
            go_wp2
            go_roundw
            case rel => exact ⟨k + 1, by omega, by go_num, HA.out, HB.out⟩
            case measure => simp [intOf]; omega
          · have HF2 := Lib.hid (HF.out (by simp [e2]))
            have d2 : (q == s) = false := by simpa using e2
            clear e2
            go_wp2_with fail
            go_region
            go_wp2
            go_ret
            exact ⟨by rw [HF2.out]; rfl, HB.out⟩
        · have HF2 := Lib.hid (HF.out (by simp [e1]))
          have d1 : (p == r) = false := by simpa using e1
          clear e1
          go_wp2_with fail
          go_region
          go_wp2
          go_ret
          exact ⟨by rw [HF2.out]; rfl, HB.out⟩
      · obtain rfl : k = n1 := by omega
        have HF : Hid (decide (l = m) = true) := by
          show _ = _
          rw [decide_eq_true_eq]
          exact agree_all hl.1 hm.1 HG.out
        clear hl hm
        go_wp2
        go_ret
        exact ⟨by rw [HF.out]; rfl, hbel⟩
  · have HF : Hid (decide (l = m) = false) := by
      show _ = _
      rw [decide_eq_false_iff_not]
      intro h
      apply hne
      rw [← hl.1, ← hm.1, h]
    have en : ((n1 : Int) != (n2 : Int)) = true := by simp; omega
    clear hl hm hne
    go_enter Tryd.func79, Tryd.ntmps79
    go_wp2
    go_ret
    exact ⟨by rw [HF.out]; rfl, Below.refl _ _⟩

set_option maxRecDepth 100000 in
theorem hasParam1_any (w : World) (q x p : Int) (pp : Nat) (hp : w.cell? ⟨pp, 0, none⟩ = some (.int .i64 p)) :
    Calls Tryd.prog 134 #[.agg #[.int .i64 q, .int .i64 x], .pointer (some ⟨pp, 0, none⟩)] w fun e w' => e = .returned (.bool (q == p)) ∧ Below w.heap.size w w' := by
  have hlt := World.block_lt_of_cell? w _ hp
  have hba : Below w.heap.size w (w.alloc (.cells #[.int .i64 q, .int .i64 x] 67)) := (Below.refl _ _).alloc (Nat.le_refl _) _
  have hp2 : ∀ ob, (w.alloc ob).cell? ⟨pp, 0, none⟩ = some (.int .i64 p) := fun ob => (((Below.refl w.heap.size w).alloc (Nat.le_refl _) ob).cell (p := ⟨pp, 0, none⟩) hlt).trans hp
  have HB := Lib.hid hba
  clear hba
  go_enter Tryd.func134, Tryd.ntmps134
  go_wp2
  go_ret
  exact ⟨rfl, HB.out⟩

/-- what a search for a parameter finds -/
def FoundP (l : List (Int × Int)) (p i : Int) : Prop := (i = -1 ∧ ∀ k, k < l.length → (l.getD k (0, 0)).1 ≠ p) ∨ (0 ≤ i ∧ ∃ k, k < l.length ∧ (l.getD k (0, 0)).1 = p)
open Classical in
/-- whether an atom bears the parameter -/
noncomputable def hasP (l : List (Int × Int)) (p : Int) : Bool := decide (∃ k, k < l.length ∧ (l.getD k (0, 0)).1 = p)
theorem hasP_iff (l : List (Int × Int)) (p : Int) : hasP l p = true ↔ ∃ k, k < l.length ∧ (l.getD k (0, 0)).1 = p := by simp [hasP]
theorem hasP_yes {l : List (Int × Int)} {p : Int} {k : Nat} (h : k < l.length) (e : (l.getD k (0, 0)).1 = p) : hasP l p = true := (hasP_iff l p).2 ⟨k, h, e⟩
theorem hasP_no {l : List (Int × Int)} {p : Int} (h : ∀ k, k < l.length → (l.getD k (0, 0)).1 ≠ p) : hasP l p = false := by
  cases e : hasP l p with
  | false => rfl
  | true => obtain ⟨k, h1, h2⟩ := (hasP_iff l p).1 e; exact absurd h2 (h k h1)
theorem FoundP.has {l : List (Int × Int)} {p i : Int} (h : FoundP l p i) : hasP l p = decide (0 ≤ i) := by
  rcases h with ⟨rfl, h⟩ | ⟨h0, k, h1, h2⟩
  · rw [hasP_no h]; rfl
  · rw [hasP_yes h1 h2, decide_eq_true h0]

set_option maxRecDepth 100000 in
set_option maxHeartbeats 2000000 in
theorem indexFunc_any (w : World) (B : Nat) (A : Option Addr) (n c : Nat) (l : List (Int × Int)) (p : Int) (pp : Nat) (hB : B ≤ w.heap.size) (hl : TokR w B A n l) (hn : (n : Int) ≤ 1048576) (hp : w.cell? ⟨pp, 0, none⟩ = some (.int .i64 p)) :
    Calls Tryd.prog 141 #[.slice A n c, .func (.func 134) #[] #[.pointer (some ⟨pp, 0, none⟩)]] w fun e w' => ∃ i : Int, e = .returned (.int .i64 i) ∧ FoundP l p i ∧ Below w.heap.size w w' := by
  have hlt0 := World.block_lt_of_cell? w _ hp
  go_enter Tryd.func141, Tryd.ntmps141
  go_wp2
  go_loopw [8] (fun i wr => ∃ k : Nat, k ≤ n ∧ i = .int .i64 k ∧ (∀ j, j < k → (l.getD j (0, 0)).1 ≠ p) ∧ Below w.heap.size w wr) (fun i _ => n - (intOf i).toNat)
  case atStart => exact ⟨0, Nat.zero_le _, rfl, (fun j hj => absurd hj (by omega)), Below.refl _ _⟩
  case round =>
    obtain ⟨k, hk, rfl, hag, hbel⟩ := hrel
    have HG := Lib.hid hag
    clear hag
    by_cases hlt : k < n
    · obtain ⟨b, off, rfl, hb, hc⟩ := hl.2 (by omega)
      obtain ⟨x1, x2⟩ := hc k hlt
      have HL := Lib.hid hl.1
      obtain ⟨t, ht⟩ : ∃ t, l.getD k (0, 0) = t := ⟨_, rfl⟩
      rw [ht] at x1 x2
      obtain ⟨q, x⟩ := t
      have HT := Lib.hid ht
      have k1 := (hbel.cell (p := ⟨b, off + k * 2, none⟩) (by show b < _; omega)).trans x1
      have k2 := (hbel.cell (p := ⟨b, off + k * 2 + 1, none⟩) (by show b < _; omega)).trans x2
      have HP := Lib.hid ((hbel.cell (p := ⟨pp, 0, none⟩) hlt0).trans hp)
      have hki : (k : Int) < (n : Int) := by omega
      clear x1 x2 hc ht hl
      go_wp2_with fail
      refine (hasParam1_any wr q x p pp HP.out).mono ?_
      rintro e w1 ⟨rfl, hb1⟩
      have HB := Lib.hid (hbel.trans (hb1.mono hbel.size))
      clear hb1 hbel k1 k2 HP
      by_cases e1 : q = p
      · subst e1
        go_wp2
        go_ret
        exact ⟨_, rfl, .inr ⟨by omega, k, by rw [HL.out]; exact hlt, by rw [HT.out]⟩, HB.out⟩
      · have d1 : (q == p) = false := by simpa using e1
        have HA : Hid (∀ j, j < k + 1 → (l.getD j (0, 0)).1 ≠ p) := fun j hj => by
          by_cases e : j = k
          · subst e; rw [HT.out]; exact e1
          · exact HG.out j (by omega)
        clear e1
        go_wp2
        go_roundw
        case rel => exact ⟨k + 1, by omega, by go_num, HA.out, HB.out⟩
        case measure => simp [intOf]; omega
    · obtain rfl : k = n := by omega
      have HL := Lib.hid hl.1
      clear hl
      go_wp2
      go_ret
      exact ⟨_, rfl, .inl ⟨rfl, fun j hj => HG.out j (by rw [HL.out] at hj; exact hj)⟩, hbel⟩

set_option maxRecDepth 100000 in
set_option maxHeartbeats 2000000 in
theorem hasParam_any (w : World) (B : Nat) (A : Option Addr) (n c : Nat) (l : List (Int × Int)) (p : Int) (hB : B ≤ w.heap.size) (hl : TokR w B A n l) (hn : (n : Int) ≤ 1048576) :
    Calls Tryd.prog 118 #[.slice A n c, .int .i64 p] w fun e w' => e = .returned (.bool (hasP l p)) ∧ Below w.heap.size w w' := by
  have hmf : ∀ (fn : Fn) (first cap : Array Value) (w : World), (Instr.makeFunc fn first cap).run Tryd.prog w = .ok (.func fn first cap) w := fun _ _ _ _ => rfl
  have hba : Below w.heap.size w (w.alloc (.cells #[.int .i64 p] 3)) := (Below.refl _ _).alloc (Nat.le_refl _) _
  have HI := Lib.hid (indexFunc_any (w.alloc (.cells #[.int .i64 p] 3)) B A n c l p w.heap.size (by simp; omega) (hl.below (hba.mono hB)) hn (by simp))
  have HB := Lib.hid hba
  clear hl hba
  go_enter Tryd.func118, Tryd.ntmps118
  go_wp2_with (go_at_call 133; go_in)
  refine HI.out.mono ?_
  rintro e w1 ⟨i, rfl, hf, hb1⟩
  have HH := Lib.hid hf.has
  have HB1 := Lib.hid (HB.out.trans (hb1.mono (by simp)))
  clear hf hb1
  go_wp2
  go_ret
  go_wp2
  exact ⟨HH.out.symm, HB1.out⟩
end Go.Proofs.YtghoofgfimeedaaDoor

namespace Go.Proofs.YtghoofgfimeedaaDoor

theorem bit_off : ∀ S : Nat, S < 32 → ∀ P : Nat, P < 5 → Sg.has (S : Int) (P : Int) = false → S + 2 ^ P < 32 ∧ S ^^^ 2 ^ P = S + 2 ^ P ∧ Sg.has ((S + 2 ^ P : Nat) : Int) (P : Int) = true := by decide +kernel
theorem bit_on : ∀ S : Nat, S < 32 → ∀ P : Nat, P < 5 → Sg.has (S : Int) (P : Int) = true → 2 ^ P ≤ S ∧ S ^^^ 2 ^ P = S - 2 ^ P ∧ Sg.has ((S - 2 ^ P : Nat) : Int) (P : Int) = false := by decide +kernel
theorem bit_lt : ∀ S : Nat, S < 32 → ∀ P : Nat, P < 5 → S ^^^ 2 ^ P < 32 := by decide +kernel

open Classical in
/-- what SignMerge answers -/
noncomputable def mergeR (l : List (Int × Int)) (p : Int) : Bool := decide (Lv.levelOk l = true ∧ 0 ≤ p ∧ p < 5 ∧ ∀ S : Nat, S < 32 → hasP (rsd l S) p = false ∧ rsd l S = rsd l (S ^^^ 2 ^ p.toNat))
theorem mergeR_no {l : List (Int × Int)} {p : Int} (h : ¬ (Lv.levelOk l = true ∧ 0 ≤ p ∧ p < 5)) : mergeR l p = false := by
  simp only [mergeR, decide_eq_false_iff_not]; exact fun hh => h ⟨hh.1, hh.2.1, hh.2.2.1⟩
theorem mergeR_not {l : List (Int × Int)} {P : Nat} {S : Nat} (hS : S < 32) (h : ¬ (hasP (rsd l S) P = false ∧ rsd l S = rsd l (S ^^^ 2 ^ P))) : mergeR l P = false := by
  simp only [mergeR, decide_eq_false_iff_not]
  intro hh
  have h4 := hh.2.2.2 S hS
  rw [Int.toNat_natCast] at h4
  exact h h4
theorem mergeR_yes {l : List (Int × Int)} {P : Nat} (hok : Lv.levelOk l = true) (hP : P < 5) (h : ∀ S : Nat, S < 32 → hasP (rsd l S) P = false ∧ rsd l S = rsd l (S ^^^ 2 ^ P)) : mergeR l P = true := by
  simp only [mergeR, decide_eq_true_eq]
  refine ⟨hok, by omega, by omega, fun S hS => ?_⟩
  rw [Int.toNat_natCast]
  exact h S hS
theorem rsd_sign {l : List (Int × Int)} {S P : Nat} (hok : Lv.levelOk l = true) (h : Sg.has (S : Int) (P : Int) = false) : hasP (rsd l S) P = false := by
  refine hasP_no fun k hk e => ?_
  rcases (wl_fine (s := (S : Int)) hok).2.1.rnorm _ (Nm.mem_getD hk) with h1 | h1
  · rw [e] at h1; omega
  · rw [e, h] at h1; cases h1
/-- the model looks at the signs without the parameter only -/
theorem merge_half {l : List (Int × Int)} {P : Nat} (hok : Lv.levelOk l = true) (hP : P < 5) (h : ∀ S : Nat, S < 32 → Sg.has (S : Int) (P : Int) = false → hasP (rsd l (S + 2 ^ P)) P = false ∧ rsd l S = rsd l (S + 2 ^ P)) : mergeR l P = true := by
  refine mergeR_yes hok hP fun S hS => ?_
  cases hh : Sg.has (S : Int) (P : Int) with
  | false =>
    rw [(bit_off S hS P hP hh).2.1]
    exact ⟨rsd_sign hok hh, (h S hS hh).2⟩
  | true =>
    obtain ⟨h1, h2, h3⟩ := bit_on S hS P hP hh
    have h4 := h (S - 2 ^ P) (Nat.lt_of_le_of_lt (Nat.sub_le _ _) hS) h3
    rw [Nat.sub_add_cancel h1] at h4
    rw [h2]
    exact ⟨h4.1, h4.2.symm⟩
theorem merge_nohalf {l : List (Int × Int)} {P S : Nat} (hS : S < 32) (hP : P < 5) (hh : Sg.has (S : Int) (P : Int) = false) (h : ¬ (hasP (rsd l (S + 2 ^ P)) P = false ∧ rsd l S = rsd l (S + 2 ^ P))) : mergeR l P = false := by
  obtain ⟨h1, h2, h3⟩ := bit_off S hS P hP hh
  cases e : hasP (rsd l (S + 2 ^ P)) P with
  | true => exact mergeR_not h1 (fun hx => by rw [e] at hx; cases hx.1)
  | false => exact mergeR_not hS (fun hx => h ⟨e, by rw [h2] at hx; exact hx.2⟩)
end Go.Proofs.YtghoofgfimeedaaDoor
