/- The model's look at a sign. -/
/- LevelSign of the program and of the model. -/
/- Residuals as lists of pairs: what is right for a sign, and what is at most what. -/
/- Plain facts on levels without imax as piles of lists of atoms, and on the level of a norm. -/
import Derived.Test.YtgebjnoicgmdoaaGreatDoorSigned
import Derived.Test.YtgebjnoicgmdoaaGreatDoorSlc
import Derived.Test.YtgebjnoicgmdoaaGreatDoorSpec
import Derived.Test.YtgebjnoicgmdoaaGreatDoorNUp

namespace Go.Proofs.YtgebjnoicgmdoaaGreatDoor
open Go.RowKit

theorem l03Sign_any (w : World) (s : Int) :
    Calls Tryz.prog 130 #[.int .i64 s] w fun e w' => e = .returned (.bool (Sg.isSign s)) ∧ w' = w := by
  by_cases h1 : 0 ≤ s
  · by_cases h2 : s ≤ 31
    · go_enter Tryz.func130, Tryz.ntmps130
      go_wp2
      go_ret
      exact ⟨by simp [Sg.isSign, h1, h2], rfl⟩
    · go_enter Tryz.func130, Tryz.ntmps130
      go_wp2
      go_ret
      exact ⟨by simp [Sg.isSign, h1, h2], rfl⟩
  · go_enter Tryz.func130, Tryz.ntmps130
    go_wp2
    go_ret
    exact ⟨by simp [Sg.isSign]; omega, rfl⟩

end Go.Proofs.YtgebjnoicgmdoaaGreatDoor

namespace Go.Proofs.YtgebjnoicgmdoaaGreatDoor
open Go.RowKit

namespace Sg
theorem bit_bd (s p : Int) : 0 ≤ bit s p ∧ bit s p ≤ 1 := by unfold bit; split <;> omega
theorem least_ok (s : Int) : envOk (least s) = true := by
  have h0 := bit_bd s 0; have h1 := bit_bd s 1; have h2 := bit_bd s 2; have h3 := bit_bd s 3; have h4 := bit_bd s 4
  simp [envOk, least]; omega
theorem least_get (s : Int) (k : Nat) (hk : k < 5) : (least s).getD k 0 = bit s k := by
  rcases (show k = 0 ∨ k = 1 ∨ k = 2 ∨ k = 3 ∨ k = 4 by omega) with rfl | rfl | rfl | rfl | rfl <;> rfl
/-- the cells of the least env, made as far as k -/
def cells (s : Int) (k : Nat) : List Value := (List.range 5).map fun (j : Nat) => .int .i64 (if j < k then bit s j else 0)
theorem cells_get (s : Int) (k j : Nat) (hj : j < 5) : (cells s k)[j]? = some (.int .i64 (if j < k then bit s j else 0)) := by
  simp [cells, hj]
theorem cells_put (s : Int) (k : Nat) (hk : k < 5) : (cells s k).set k (.int .i64 (bit s k)) = cells s (k + 1) := by
  rcases (show k = 0 ∨ k = 1 ∨ k = 2 ∨ k = 3 ∨ k = 4 by omega) with rfl | rfl | rfl | rfl | rfl <;> simp [cells, List.range, List.range.loop]
theorem bit_eq (s : Int) (hs : 0 ≤ s ∧ s ≤ 31) (k : Nat) (hk : k < 5) : Go.bits BinOp.and IntKind.i64 (s / 2 ^ k) 1 = bit s k := by
  rw [and_one _ (Int.ediv_nonneg hs.1 (Int.pow_nonneg (by decide))) (Int.le_trans (Int.ediv_le_self _ hs.1) hs.2)]
  unfold bit has
  simp only [hs.1, hs.2, Int.toNat_natCast, true_and, decide_eq_true_eq, show (0 : Int) ≤ (k : Int) by omega, show (k : Int) < 5 by omega]
  split <;> omega
end Sg

theorem least_row (w : World) (s : Int) : IntR (w.alloc (.cells (Sg.cells s 5).toArray 3)) (w.heap.size + 1) (some ⟨w.heap.size, 0, none⟩) 5 (Sg.least s) := by
  refine ⟨rfl, fun _ => ⟨w.heap.size, 0, rfl, by omega, fun k hk => ?_⟩⟩
  rw [(Blk.made w _ _).cell, Nat.zero_add, List.getElem?_toArray, Sg.cells_get s 5 k hk, if_pos hk, Sg.least_get s k hk]

set_option maxHeartbeats 800000 in
theorem smallestEnv_any (w : World) (s : Int) (hs : 0 ≤ s ∧ s ≤ 31) :
    Calls Tryz.prog 168 #[.int .i64 s] w fun e w' => e = .returned (.slice (some ⟨w.heap.size, 0, none⟩) 5 5) ∧ w' = w.alloc (.cells (Sg.cells s 5).toArray 3) := by
  have hmk : ∀ w, (Instr.makeSlice 29 (.int .i64 5) (.int .i64 5)).run Tryz.prog w = .ok (.slice (some ⟨w.heap.size, 0, none⟩) 5 5) (w.alloc (.cells #[.int .i64 0, .int .i64 0, .int .i64 0, .int .i64 0, .int .i64 0] 3)) := fun _ => by kernel_rfl
  go_enter Tryz.func168, Tryz.ntmps168
  go_wp2
  go_loopw [8] (fun i wr => ∃ k : Nat, k ≤ 5 ∧ i = .int .i64 k ∧ wr = w.alloc (.cells (Sg.cells s k).toArray 3)) (fun i _ => 5 - (intOf i).toNat)
  case atStart => exact ⟨0, by omega, rfl, rfl⟩
  case round =>
    obtain ⟨k, hk, rfl, rfl⟩ := hrel
    by_cases hlt : k < 5
    · have hb := Sg.bit_eq s hs k hlt
      have HP := Lib.hid (Sg.cells_put s k hlt)
      obtain ⟨v, hv⟩ : ∃ v, (Sg.cells s k)[k]? = some v := ⟨_, Sg.cells_get s k k hlt⟩
      have e0 : (w.alloc (.cells (Sg.cells s k).toArray 3)).cell? ⟨w.heap.size, k, none⟩ = some v := by
        rw [(Blk.made w _ _).cell, List.getElem?_toArray, hv]
      have f0 := (Blk.made w 3 (Sg.cells s k).toArray).thawed k
      have hkt : ((k : Int)).toNat = k := by omega
      clear hv
      obtain ⟨h1, h2⟩ := hs
      generalize Sg.cells s k = cs at *
      go_wp2
      go_roundw
      case rel => exact ⟨k + 1, by omega, by go_num, by rw [HP.out]⟩
      case measure => simp [intOf]; omega
    · obtain rfl : k = 5 := by omega
      go_wp2
      go_ret
      exact ⟨rfl, rfl⟩

/-- what LevelSign answers -/
def lsgR (l : List (Int × Int)) (s : Int) : Int := if Sg.isSign s = true then (match evalR (Sg.least s) l with | some v => min v 1 | none => -1) else -1
theorem lsgR_no {l : List (Int × Int)} {s : Int} (h : Sg.isSign s = false) : lsgR l s = -1 := by unfold lsgR; rw [if_neg (by rw [h]; decide)]
theorem lsgR_none {l : List (Int × Int)} {s : Int} (h : evalR (Sg.least s) l = none) : lsgR l s = -1 := by unfold lsgR; rw [h]; split <;> rfl
theorem lsgR_some {l : List (Int × Int)} {s v : Int} (hs : Sg.isSign s = true) (h : evalR (Sg.least s) l = some v) : lsgR l s = min v 1 := by unfold lsgR; rw [h, if_pos hs]
theorem sign_bd {s : Int} (h : Sg.isSign s = true) : 0 ≤ s ∧ s ≤ 31 := by simpa [Sg.isSign] using h

set_option maxRecDepth 100000 in
set_option maxHeartbeats 1600000 in
theorem implLevelSign_any (w : World) (B : Nat) (A : Option Addr) (n c : Nat) (l : List (Int × Int)) (s : Int) (T : TypeId) (pv : Value) (h0 : 1 < B) (hB : B ≤ w.heap.size)
    (hl : TokR w B A n l) (hn : (n : Int) ≤ 140737488355328) (hE : ErrAt w T pv) :
    Calls Tryz.prog 165 #[.slice A n c, .int .i64 s] w fun e w' => e = .returned (.int .i64 (lsgR l s)) ∧ Below w.heap.size w w' := by
  cases hs : Sg.isSign s with
  | false =>
    have HF := Lib.hid (lsgR_no (l := l) hs)
    clear hl
    go_enter Tryz.func165, Tryz.ntmps165
    go_wp2_with fail
    refine (signOk_any w s).mono ?_
    rintro e w' ⟨rfl, rfl⟩
    rw [hs]
    go_wp2
    go_ret
    exact ⟨by rw [HF.out]; rfl, Below.refl _ _⟩
  | true =>
    have hbd := sign_bd hs
    have hb1 := (Below.refl w.heap.size w).alloc (Nat.le_refl _) (.cells (Sg.cells s 5).toArray 3)
    have hev := levelEval_any (w.alloc (.cells (Sg.cells s 5).toArray 3)) (w.heap.size + 1) A (some ⟨w.heap.size, 0, none⟩) n c 5 5 (Sg.least s) l T pv (by omega) (by simp) ((hl.below (hb1.mono hB)).more (by omega)) hn (least_row w s) (by omega) (hE.below (hb1.mono hB) h0)
    cases hr : evalR (Sg.least s) l with
    | none =>
      rw [hr] at hev
      have HEV := Lib.hid hev
      have HB1 := Lib.hid hb1
      have HF := Lib.hid (lsgR_none (s := s) hr)
      clear hev hb1 hr hl
      go_enter Tryz.func165, Tryz.ntmps165
      go_wp2_with fail
      refine (signOk_any w s).mono ?_
      rintro e w' ⟨rfl, rfl⟩
      rw [hs]
      go_wp2_with fail
      refine (smallestEnv_any _ s hbd).mono ?_
      rintro e w2 ⟨rfl, rfl⟩
      go_wp2_with fail
      refine HEV.out.mono ?_
      rintro e w3 ⟨rfl, hb3⟩
      unfold evalV
      have HB3 := Lib.hid (HB1.out.trans (hb3.mono (by simp)))
      clear hb3
      go_wp2
      go_ret
      exact ⟨by rw [HF.out]; rfl, HB3.out⟩
    | some v =>
      rw [hr] at hev
      have HEV := Lib.hid hev
      have HB1 := Lib.hid hb1
      have HF := Lib.hid (lsgR_some hs hr)
      clear hev hb1 hr hl
      by_cases hv : v ≤ 1
      · have HM : Hid (min v 1 = v) := by unfold Hid; omega
        go_enter Tryz.func165, Tryz.ntmps165
        go_wp2_with fail
        refine (signOk_any w s).mono ?_
        rintro e w' ⟨rfl, rfl⟩
        rw [hs]
        go_wp2_with fail
        refine (smallestEnv_any _ s hbd).mono ?_
        rintro e w2 ⟨rfl, rfl⟩
        go_wp2_with fail
        refine HEV.out.mono ?_
        rintro e w3 ⟨rfl, hb3⟩
        unfold evalV
        have HB3 := Lib.hid (HB1.out.trans (hb3.mono (by simp)))
        clear hb3
        go_wp2
        go_ret
        exact ⟨by rw [HF.out, HM.out]; rfl, HB3.out⟩
      · have HM : Hid (min v 1 = 1) := by unfold Hid; omega
        have hv' : 1 < v := by omega
        go_enter Tryz.func165, Tryz.ntmps165
        go_wp2_with fail
        refine (signOk_any w s).mono ?_
        rintro e w' ⟨rfl, rfl⟩
        rw [hs]
        go_wp2_with fail
        refine (smallestEnv_any _ s hbd).mono ?_
        rintro e w2 ⟨rfl, rfl⟩
        go_wp2_with fail
        refine HEV.out.mono ?_
        rintro e w3 ⟨rfl, hb3⟩
        unfold evalV
        have HB3 := Lib.hid (HB1.out.trans (hb3.mono (by simp)))
        clear hb3
        go_wp2
        go_ret
        exact ⟨by rw [HF.out, HM.out]; rfl, HB3.out⟩

end Go.Proofs.YtgebjnoicgmdoaaGreatDoor

namespace Go.Proofs.YtgebjnoicgmdoaaGreatDoor

namespace Nm
/-- a residual for a sign -/
def ROk (s : Int) (l : List At) : Prop := Sg.isSign s = true ∧ 1 ≤ l.length ∧ AllOk l ∧ Incr l ∧ (∀ k, k < l.length → (l.getD k (0, 0)).1 = -1 ∨ Sg.has s (l.getD k (0, 0)).1 = true) ∧ ((l.getD 0 (0, 0)).1 = -1 → Exceeds ((l.getD 0 (0, 0)).2 - 1) (l.drop 1))
end Nm
end Go.Proofs.YtgebjnoicgmdoaaGreatDoor

namespace Go.Proofs.YtgebjnoicgmdoaaGreatDoor.Nm
open Go.Proofs.YtgebjnoicgmdoaaGreatDoor.Lv

/-- one token on a pile of lists of atoms, its top first -/
def pstep (t : Tk) (st : List (List At)) : Option (List (List At)) :=
  if tkOk t = true then
    if t.1 = 0 then some ([(-1, 0)] :: st)
    else if t.1 = 4 then some ([(t.2, 0)] :: st)
    else if t.1 = 1 then
      match st with
      | a :: s => some (up 1 a :: s)
      | [] => none
    else if t.1 = 2 then
      match st with
      | b :: a :: s => some ((a ++ b) :: s)
      | _ => none
    else none
  else none
def prun : List Tk → List (List At) → Option (List (List At))
  | [], st => some st
  | t :: r, st => (pstep t st).bind (prun r)
theorem prun_append (a b : List Tk) (st : List (List At)) : prun (a ++ b) st = (prun a st).bind (prun b) := by
  induction a generalizing st with
  | nil => rfl
  | cons t r ih =>
    simp only [List.cons_append, prun]
    cases pstep t st with
    | none => rfl
    | some s => simp [ih]
theorem prun_take_succ (l : List Tk) (k : Nat) (hk : k < l.length) (st : List (List At)) :
    prun (l.take (k + 1)) st = (prun (l.take k) st).bind (pstep (l.getD k (0, 0))) := by
  rw [List.take_succ_eq_append_getElem hk, prun_append]
  congr 1
  funext s
  simp only [prun, List.getD_eq_getElem?_getD, List.getElem?_eq_getElem hk, Option.getD_some]
  cases pstep l[k] s <;> rfl
theorem pstep_height {t : Tk} {st : List (List At)} (h3 : t.1 ≠ 3) :
    (pstep t st).map (fun s => (s.length : Int)) = if tkOk t = true ∧ takes t.1 ≤ st.length then some ((st.length : Int) - takes t.1 + 1) else none := by
  unfold pstep
  by_cases h : tkOk t = true
  · simp only [h, if_true, true_and]
    rcases tk_cases h with e | e | e | e | e
    · simp [e, takes]
    · rcases st with _ | ⟨a, s⟩ <;> simp [e, takes]
      omega
    · rcases st with _ | ⟨b, _ | ⟨a, s⟩⟩ <;> simp [e, takes]
      omega
    · exact absurd e h3
    · simp [e, takes]
  · simp [h]
theorem prun_height {l : List Tk} (h3 : ∀ t ∈ l, t.1 ≠ 3) (st : List (List At)) : (prun l st).map (fun s => (s.length : Int)) = hts l st.length := by
  induction l generalizing st with
  | nil => rfl
  | cons t r ih =>
    simp only [prun, hts]
    have hs := pstep_height (t := t) (st := st) (h3 t (by simp))
    cases hst : pstep t st with
    | none =>
      rw [hst] at hs
      by_cases hc : tkOk t = true ∧ takes t.1 ≤ st.length
      · rw [if_pos hc] at hs; cases hs
      · rw [if_neg hc]; rfl
    | some s =>
      rw [hst] at hs
      by_cases hc : tkOk t = true ∧ takes t.1 ≤ st.length
      · rw [if_pos hc] at hs ⊢
        simp only [Option.map_some, Option.some.injEq] at hs
        simp only [Option.bind_some]
        rw [ih (fun u hu => h3 u (List.mem_cons_of_mem _ hu)), hs]
      · rw [if_neg hc] at hs; cases hs
/-- the pile behind the first k tokens of a right level without imax -/
theorem prun_some {l : List Tk} (h : levelOk l = true) (h3 : ∀ t ∈ l, t.1 ≠ 3) (k : Nat) : ∃ st, prun (l.take k) [] = some st := by
  simp only [levelOk, Bool.and_eq_true, decide_eq_true_eq] at h
  have e := prun_height h3 []
  simp only [List.length_nil, Int.ofNat_zero] at e
  rw [h.2] at e
  have e2 := prun_append (l.take k) (l.drop k) []
  rw [List.take_append_drop] at e2
  cases hq : prun (l.take k) [] with
  | none => rw [hq] at e2; rw [e2] at e; cases e
  | some s => exact ⟨s, rfl⟩
/-- the atoms of a right level without imax -/
theorem prun_one {l : List Tk} (h : levelOk l = true) (h3 : ∀ t ∈ l, t.1 ≠ 3) : ∃ a, prun l [] = some [a] := by
  have h' := h
  simp only [levelOk, Bool.and_eq_true, decide_eq_true_eq] at h'
  have e := prun_height h3 []
  simp only [List.length_nil, Int.ofNat_zero] at e
  rw [h'.2] at e
  cases hq : prun l [] with
  | none => rw [hq] at e; cases e
  | some s =>
    rw [hq] at e
    simp only [Option.map_some, Option.some.injEq] at e
    match s, e with
    | [v], _ => exact ⟨v, rfl⟩

/-- what holds of a pile behind k tokens -/
def Fine (k : Nat) (st : List (List At)) : Prop := ∀ a ∈ st, a ≠ [] ∧ ∀ x ∈ a, -1 ≤ x.1 ∧ x.1 < 5 ∧ 0 ≤ x.2 ∧ x.2 ≤ k
theorem Fine.allOk {k : Nat} {st : List (List At)} (h : Fine k st) (hk : k ≤ 1000) {a : List At} (ha : a ∈ st) : AllOk a :=
  allOk_of_mem fun x hx => (atOk_iff x).2 (by have := (h a ha).2 x hx; omega)
theorem fine_step {k : Nat} {t : Tk} {st st' : List (List At)} (h : Fine k st) (hs : pstep t st = some st') : Fine (k + 1) st' := by
  have hmono : ∀ a ∈ st, a ≠ [] ∧ ∀ x ∈ a, -1 ≤ x.1 ∧ x.1 < 5 ∧ 0 ≤ x.2 ∧ x.2 ≤ ((k + 1 : Nat) : Int) := fun a ha => ⟨(h a ha).1, fun x hx => by have := (h a ha).2 x hx; omega⟩
  unfold pstep at hs
  split at hs
  · rename_i hok
    simp [tkOk] at hok
    split at hs
    · cases hs
      intro a ha
      rcases List.mem_cons.1 ha with rfl | ha
      · exact ⟨by simp, fun x hx => by simp at hx; subst hx; simp; omega⟩
      · exact hmono a ha
    · split at hs
      · cases hs
        intro a ha
        rcases List.mem_cons.1 ha with rfl | ha
        · exact ⟨by simp, fun x hx => by simp at hx; subst hx; simp; omega⟩
        · exact hmono a ha
      · split at hs
        · split at hs
          · cases hs
            rename_i a s
            intro c hc
            rcases List.mem_cons.1 hc with rfl | hc
            · have h1 := h a (by simp)
              refine ⟨by simp [up, h1.1], fun x hx => ?_⟩
              obtain ⟨y, hy, rfl⟩ := List.mem_map.1 hx
              have := h1.2 y hy
              simp only
              omega
            · exact hmono c (by simp [hc])
          · cases hs
        · split at hs
          · split at hs
            · cases hs
              rename_i b a s
              intro c hc
              rcases List.mem_cons.1 hc with rfl | hc
              · have h1 := hmono a (by simp)
                have h2 := hmono b (by simp)
                refine ⟨by simp [h1.1], fun x hx => ?_⟩
                rcases List.mem_append.1 hx with hx | hx
                · exact h1.2 x hx
                · exact h2.2 x hx
              · exact hmono c (by simp [hc])
            · cases hs
          · cases hs
  · cases hs
theorem fine_run {l : List Tk} {st : List (List At)} (h : prun l [] = some st) : Fine l.length st := by
  have H : ∀ (l : List Tk) (k : Nat) (s st : List (List At)), Fine k s → prun l s = some st → Fine (k + l.length) st := by
    intro l
    induction l with
    | nil => intro k s st hf h; cases h; exact hf
    | cons t r ih =>
      intro k s st hf h
      simp only [prun] at h
      cases hs : pstep t s with
      | none => rw [hs] at h; cases h
      | some s' =>
        rw [hs] at h
        have := ih (k + 1) s' st (fine_step hf hs) h
        simpa [Nat.add_comm, Nat.add_left_comm, Nat.add_assoc] using this
  have := H l 0 [] st (by intro a ha; simp at ha) h
  simpa using this
/-- the number of atoms on a pile -/
theorem flat_step {t : Tk} {st st' : List (List At)} (hs : pstep t st = some st') : st'.flatten.length ≤ st.flatten.length + 1 := by
  unfold pstep at hs
  split at hs
  · split at hs
    · cases hs; simp
    · split at hs
      · cases hs; simp
      · split at hs
        · split at hs
          · cases hs; simp [up]
          · cases hs
        · split at hs
          · split at hs
            · cases hs; simp; omega
            · cases hs
          · cases hs
  · cases hs
theorem flat_run {l : List Tk} {st : List (List At)} (h : prun l [] = some st) : st.flatten.length ≤ l.length := by
  have H : ∀ (l : List Tk) (s st : List (List At)), prun l s = some st → st.flatten.length ≤ s.flatten.length + l.length := by
    intro l
    induction l with
    | nil => intro s st h; cases h; simp
    | cons t r ih =>
      intro s st h
      simp only [prun] at h
      cases hs : pstep t s with
      | none => rw [hs] at h; cases h
      | some s' =>
        rw [hs] at h
        have h1 := ih s' st h
        have h2 := flat_step hs
        simp only [List.length_cons]
        omega
  simpa using H l [] st h
theorem len_run {l : List Tk} {st : List (List At)} (h : prun l [] = some st) : st.length ≤ l.length := by
  have h1 := fine_run h
  have h2 := flat_run h
  have : ∀ s : List (List At), (∀ a ∈ s, a ≠ []) → s.length ≤ s.flatten.length := by
    intro s
    induction s with
    | nil => intro _; simp
    | cons a r ih =>
      intro hs
      have := ih (fun b hb => hs b (List.mem_cons_of_mem _ hb))
      have ha := hs a (by simp)
      have : 0 < a.length := List.length_pos_iff.2 ha
      simp only [List.length_cons, List.flatten_cons, List.length_append]
      omega
  have := this st (fun a ha => (h1 a ha).1)
  omega

/-- what NormFree answers -/
def leafs (l : List Tk) : List At := ((prun l []).getD []).headD []
open Classical in
noncomputable def freeR (l : List Tk) : Option (List At) := if levelOk l = true ∧ ∀ t ∈ l, t.1 ≠ 3 then some (norm (leafs l)) else none
/-- values: a pile of atoms against the stack of the level's run -/
theorem pstep_val {env : List Int} (hp : Pos env) {t : Tk} {k : Nat} {st st' : List (List At)} (hk : k ≤ 999) (hf : Fine k st) (h : pstep t st = some st') : Lv.step env t (st.map (value env)) = some (st'.map (value env)) := by
  have hok : tkOk t = true := by
    unfold pstep at h
    split at h
    · assumption
    · cases h
  unfold pstep at h
  unfold Lv.step
  rw [if_pos hok] at h ⊢
  split at h
  · rename_i e
    cases h
    rw [if_pos e]
    simp [value, val]
  · rename_i e
    rw [if_neg e]
    split at h
    · rename_i e4
      cases h
      rw [if_pos e4]
      have h2 : 0 ≤ t.2 := by simp [tkOk] at hok; omega
      have := hp.get t.2.toNat
      simp only [List.map_cons, value, val, show ¬ t.2 = -1 by omega, if_false, Option.some.injEq, List.cons.injEq, and_true]
      omega
    · rename_i e4
      rw [if_neg e4]
      split at h
      · rename_i e1
        rw [if_pos e1]
        split at h
        · cases h
          rename_i a s
          have ha := hf a (by simp)
          simp only [List.map_cons]
          rw [value_up hp ha.1 (hf.allOk (by omega) (by simp)) (by omega)]
        · cases h
      · rename_i e1
        rw [if_neg e1]
        split at h
        · rename_i e2
          split at h
          · cases h
            rename_i b a s
            simp only [List.map_cons]
            rw [value_append, if_neg (by omega)]
          · cases h
        · cases h
theorem prun_val {env : List Int} (hp : Pos env) {l : List Tk} {st : List (List At)} (hl : l.length ≤ 24) (h : prun l [] = some st) : Lv.run env l [] = some (st.map (value env)) := by
  have H : ∀ (l : List Tk) (k : Nat) (s st : List (List At)), k + l.length ≤ 999 → Fine k s → prun l s = some st → Lv.run env l (s.map (value env)) = some (st.map (value env)) := by
    intro l
    induction l with
    | nil => intro k s st _ _ h; cases h; rfl
    | cons t r ih =>
      intro k s st hk hf h
      simp only [prun] at h
      simp only [List.length_cons] at hk
      cases hs : pstep t s with
      | none => rw [hs] at h; cases h
      | some s' =>
        rw [hs] at h
        simp only [Lv.run]
        rw [pstep_val hp (k := k) (by omega) hf hs, Option.bind_some]
        exact ih (k + 1) s' st (by omega) (fine_step hf hs) h
  exact H l 0 [] st (by omega) (by intro a ha; simp at ha) h
theorem eval_leafs {env : List Int} (hp : Pos env) {l : List Tk} (h : levelOk l = true) (h3 : ∀ t ∈ l, t.1 ≠ 3) : Lv.eval env l = some (value env (norm (leafs l))) := by
  obtain ⟨a, ha⟩ := prun_one h h3
  have h' := h
  simp only [levelOk, Bool.and_eq_true, decide_eq_true_eq] at h'
  have hr := prun_val hp (by omega) ha
  have hf := fine_run ha
  have e := Lv.eval_of_run (env := env) (l := l) (v := value env a) (by omega) (by omega) (by simpa using hr)
  rw [e, leafs, ha]
  simp only [Option.getD_some, List.headD_cons, Option.some.injEq]
  exact (value_norm hp (hf.allOk (by omega) (by simp))).symm
end Go.Proofs.YtgebjnoicgmdoaaGreatDoor.Nm
