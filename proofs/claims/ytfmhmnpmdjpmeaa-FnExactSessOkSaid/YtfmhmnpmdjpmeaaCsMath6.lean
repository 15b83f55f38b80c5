/- ConsSat of the reference model. -/
/- Sessions: what is live, what holds, when a session is one. -/
/- Plain facts for constraints, as the program goes: a table of ways lengthened by one edge until it stays as it is; where it stays it is the table of longest ways, and for six nodes it stays by the sixth time or never. Nothing of the program is imported. -/
import Derived.Test.YtfmhmnpmdjpmeaaCoPath
import Derived.Test.YtfmhmnpmdjpmeaaNMath
import Derived.Test.YtfmhmnpmdjpmeaaCoTab
import Derived.Test.YtfmhmnpmdjpmeaaCoMem

namespace Go.Proofs.Ytfmhmnpmdjpmeaa
open Go.RowKit
open Cs (Cn Tb)

theorem consOk_parts {l : List Cn} (h : consOkR l = true) : Cs.ok l ∧ l.length ≤ 1000 := by
  unfold consOkR at h
  simp only [Bool.and_eq_true, decide_eq_true_eq, List.all_eq_true] at h
  exact ⟨fun c hc => h.1 c hc, by omega⟩
/-- the answer of ConsSat -/
def satR (l : List Cn) : Bool := consOkR l && Cs.flat l
theorem satR_no {l : List Cn} (h : consOkR l = false) : satR l = false := by unfold satR; rw [h]; rfl
theorem satR_ok {l : List Cn} (h : consOkR l = true) : satR l = Cs.flat l := by unfold satR; rw [h, Bool.true_and]

set_option maxRecDepth 100000 in
set_option maxHeartbeats 1600000 in
theorem specConsSat_any (w : World) (B : Nat) (A : Option Addr) (n c : Nat) (l : List Cn) (hB : B ≤ w.heap.size) (hl : ConR w B A n l) (hn : (n : Int) ≤ 140737488355328) :
    Calls Try.prog 45 #[.slice A n c] w fun e w' => e = .returned (.bool (satR l)) ∧ Below w.heap.size w w' := by
  have HL := Lib.hid hl
  clear hl
  go_enter Try.func45, Try.ntmps45
  go_wp2_with fail
  refine (specConsOk_any w B A n c l hB HL.out hn).mono ?_
  rintro e w1 ⟨rfl, hb1⟩
  have HB1 := Lib.hid hb1
  have hs1 := hb1.size
  clear hb1
  cases hc : consOkR l with
  | false =>
    have HF := Lib.hid (satR_no hc)
    clear hc
    go_wp2
    go_ret
    exact ⟨by rw [HF.out]; rfl, HB1.out⟩
  | true =>
    have HF := Lib.hid (satR_ok hc)
    have HP := Lib.hid (consOk_parts hc)
    clear hc
    go_wp2_with fail
    refine (l05Paths_any w1 B A n c l (Nat.le_trans hB hs1) (HL.out.below (HB1.out.mono hB)) HP.out.1 (by rw [← HL.out.1]; exact HP.out.2)).mono ?_
    rintro e w2 ⟨hb2, ⟨hf, g, cap, rw', cp, rfl, _⟩ | ⟨hf, rfl⟩⟩
    · have HR : Hid (satR l = true) := HF.out.trans hf
      have HB2 := Lib.hid (HB1.out.trans (hb2.mono hs1))
      clear hb2 hf HF HP
      go_wp2
      go_ret
      exact ⟨by rw [HR.out]; rfl, HB2.out⟩
    · have HR : Hid (satR l = false) := HF.out.trans hf
      have HB2 := Lib.hid (HB1.out.trans (hb2.mono hs1))
      clear hb2 hf HF HP
      go_wp2
      go_ret
      exact ⟨by rw [HR.out]; rfl, HB2.out⟩
end Go.Proofs.Ytfmhmnpmdjpmeaa

namespace Go.Proofs.Ytfmhmnpmdjpmeaa
open Cs (Cn)

/-- the parameters of all frames, from the bottom to the top; the constraints -/
def liveF (fs : List Fm) : List Int := fs.flatMap (·.1)
def consF (fs : List Fm) : List Cn := fs.flatMap (·.2)
theorem liveF_take {fs : List Fm} {k : Nat} (hk : k < fs.length) : liveF (fs.take (k + 1)) = liveF (fs.take k) ++ (fs.getD k fm0).1 := by
  unfold liveF
  rw [List.take_succ_eq_append_getElem hk, List.flatMap_append]
  simp [List.getD_eq_getElem?_getD, List.getElem?_eq_getElem hk]
theorem consF_take {fs : List Fm} {k : Nat} (hk : k < fs.length) : consF (fs.take (k + 1)) = consF (fs.take k) ++ (fs.getD k fm0).2 := by
  unfold consF
  rw [List.take_succ_eq_append_getElem hk, List.flatMap_append]
  simp [List.getD_eq_getElem?_getD, List.getElem?_eq_getElem hk]
/-- p may be declared where L is live -/
def parOk (L : List Int) (p : Int) : Bool := decide (0 ≤ p) && decide (p < 5) && !inI L p
def sideIn (L : List Int) (p : Int) : Bool := p == -1 || inI L p
def conIn (L : List Int) (t : Cn) : Bool := Cs.cOk t && sideIn L t.1 && sideIn L t.2.2
/-- a list's places, one after the other -/
def parsR (L ps : List Int) : Bool := (List.range ps.length).all fun i => parOk (L ++ ps.take i) (ps.getD i 0)
def consR (L : List Int) (cs : List Cn) : Bool := (List.range cs.length).all fun i => conIn L (cs.getD i (0, 0, 0))
def frmR (L : List Int) (f : Fm) : Bool := parsR L f.1 && consR (L ++ f.1) f.2
def frmsR (fs : List Fm) : Bool := (List.range fs.length).all fun k => frmR (liveF (fs.take k)) (fs.getD k fm0)
def sessR (fs : List Fm) : Bool := decide (1 ≤ fs.length) && decide (fs.length ≤ 8) && frmsR fs && satR (consF fs)
theorem all_range {n : Nat} {f : Nat → Bool} : (List.range n).all f = true ↔ ∀ i, i < n → f i = true := by
  rw [List.all_eq_true]; simp
theorem all_range_not {n : Nat} {f : Nat → Bool} {i : Nat} (hi : i < n) (h : f i = false) : (List.range n).all f = false := by
  cases e : (List.range n).all f with
  | false => rfl
  | true => have := all_range.1 e i hi; rw [h] at this; cases this
theorem parsR_not {L ps : List Int} {i : Nat} (hi : i < ps.length) (h : parOk (L ++ ps.take i) (ps.getD i 0) = false) : parsR L ps = false := all_range_not hi h
theorem consR_not {L : List Int} {cs : List Cn} {i : Nat} (hi : i < cs.length) (h : conIn L (cs.getD i (0, 0, 0)) = false) : consR L cs = false := all_range_not hi h
theorem frmsR_not {fs : List Fm} {k : Nat} (hk : k < fs.length) (h : frmR (liveF (fs.take k)) (fs.getD k fm0) = false) : frmsR fs = false := all_range_not hk h
theorem sessR_frm {fs : List Fm} (h : frmsR fs = false) : sessR fs = false := by unfold sessR; rw [h]; simp
theorem sessR_ok {fs : List Fm} (h1 : 1 ≤ fs.length) (h8 : fs.length ≤ 8) (h : frmsR fs = true) : sessR fs = satR (consF fs) := by unfold sessR; rw [h]; simp [h1, h8]
theorem frmR_par {L : List Int} {f : Fm} (h : parsR L f.1 = false) : frmR L f = false := by unfold frmR; rw [h]; rfl
theorem frmR_con {L : List Int} {f : Fm} (h : consR (L ++ f.1) f.2 = false) : frmR L f = false := by unfold frmR; rw [h]; simp
/-- all different and all from 0 to 4 -/
def Slim (L : List Int) : Prop := L.Nodup ∧ ∀ p ∈ L, 0 ≤ p ∧ p < 5
theorem Slim.nil : Slim [] := ⟨List.nodup_nil, fun p hp => absurd hp (by simp)⟩
theorem Slim.push {L : List Int} {p : Int} (h : Slim L) (hp : parOk L p = true) : Slim (L ++ [p]) := by
  unfold parOk inI at hp
  simp at hp
  refine ⟨List.nodup_append.2 ⟨h.1, by simp, fun a ha b hb => ?_⟩, fun q hq => ?_⟩
  · simp at hb; subst hb; rintro rfl; exact hp.2 ha
  · rcases List.mem_append.1 hq with h' | h'
    · exact h.2 q h'
    · simp at h'; subst h'; exact hp.1
theorem filter_two (f : Int → Bool) (L : List Int) : L.length = (L.filter f).length + (L.filter fun p => !f p).length := by
  induction L with
  | nil => rfl
  | cons a r ih =>
    rw [List.filter_cons, List.filter_cons]
    cases h : f a <;> simp <;> omega
theorem slim_count (n : Nat) : ∀ L : List Int, L.Nodup → (∀ p ∈ L, 0 ≤ p ∧ p < n) → L.length ≤ n := by
  induction n with
  | zero =>
    intro L _ h
    cases L with
    | nil => simp
    | cons a r => have := h a (by simp); omega
  | succ n ih =>
    intro L hd h
    have hf := ih (L.filter fun p => p != (n : Int)) (hd.filter _) (fun p hp => by
      rw [List.mem_filter] at hp
      have := h p hp.1
      have h2 : p ≠ (n : Int) := by simpa using hp.2
      omega)
    have hc : (L.filter fun p => !(p != (n : Int))).length ≤ 1 := by
      have hn := hd.filter (fun p => !(p != (n : Int)))
      have hall : ∀ p ∈ L.filter (fun p => !(p != (n : Int))), p = (n : Int) := fun p hp => by
        rw [List.mem_filter] at hp
        simpa using hp.2
      match hL : L.filter (fun p => !(p != (n : Int))) with
      | [] => simp
      | [a] => simp
      | a :: b :: r =>
        rw [hL] at hn hall
        have ha := hall a (by simp)
        have hb := hall b (by simp)
        have := List.nodup_cons.1 hn
        exact absurd (by rw [ha, hb]; simp) this.1
    have hsum := filter_two (fun p => p != (n : Int)) L
    omega
theorem Slim.len {L : List Int} (h : Slim L) : L.length ≤ 5 := slim_count 5 L h.1 (fun p hp => by have := h.2 p hp; omega)
theorem slim_pars {L ps : List Int} (h : Slim L) : ∀ i, i ≤ ps.length → (∀ j, j < i → parOk (L ++ ps.take j) (ps.getD j 0) = true) → Slim (L ++ ps.take i) := by
  intro i
  induction i with
  | zero => intro _ _; simpa using h
  | succ i ih =>
    intro hi hall
    have h1 := ih (by omega) (fun j hj => hall j (by omega))
    have h2 := h1.push (hall i (by omega))
    rw [List.take_succ_eq_append_getElem (by omega), ← List.append_assoc]
    simpa [List.getD_eq_getElem?_getD, List.getElem?_eq_getElem (show i < ps.length by omega)] using h2
theorem slim_frms {fs : List Fm} : ∀ k, k ≤ fs.length → (∀ j, j < k → frmR (liveF (fs.take j)) (fs.getD j fm0) = true) → Slim (liveF (fs.take k)) := by
  intro k
  induction k with
  | zero => intro _ _; exact Slim.nil
  | succ k ih =>
    intro hk hall
    have h1 := ih (by omega) (fun j hj => hall j (by omega))
    have h2 := hall k (by omega)
    unfold frmR at h2
    rw [Bool.and_eq_true] at h2
    have h3 := slim_pars (ps := (fs.getD k fm0).1) h1 _ (Nat.le_refl _) (all_range.1 h2.1)
    rw [List.take_of_length_le (Nat.le_refl _)] at h3
    rw [liveF_take (by omega)]
    exact h3
end Go.Proofs.Ytfmhmnpmdjpmeaa

namespace Go.Proofs.Ytfmhmnpmdjpmeaa.Cs

/-- one step of lengthening -/
def ext1 (t e : Tb) (i k j : Nat) (o : Tb) : Tb := if t i k ≠ -1 ∧ e k j ≠ -1 then put o i j (max (o i j) (t i k + e k j)) else o
def extJ (t e : Tb) (i k : Nat) : Nat → Tb → Tb
  | 0, o => o
  | n + 1, o => ext1 t e i k n (extJ t e i k n o)
def extK (t e : Tb) (i : Nat) : Nat → Tb → Tb
  | 0, o => o
  | n + 1, o => extJ t e i n 6 (extK t e i n o)
def extI (t e : Tb) : Nat → Tb → Tb
  | 0, o => o
  | n + 1, o => extK t e n 6 (extI t e n o)
/-- all ways with up to one more edge -/
def ext (t e : Tb) : Tb := extI t e 6 t
theorem extJ_skip {t e : Tb} {i k : Nat} (h : t i k = -1) : ∀ n o, extJ t e i k n o = o
  | 0, _ => rfl
  | n + 1, o => by
    show ext1 t e i k n (extJ t e i k n o) = o
    rw [extJ_skip h n o]
    exact if_neg (fun c => c.1 h)

theorem ext1_ge (t e : Tb) (i k j : Nat) (o : Tb) : Ge o (ext1 t e i k j o) := by
  unfold ext1
  split
  · exact ge_put o i j _
  · exact fun _ _ => Int.le_refl _
theorem ge_trans {a b c : Tb} (h : Ge a b) (k : Ge b c) : Ge a c := fun i j => Int.le_trans (h i j) (k i j)
theorem extJ_ge (t e : Tb) (i k : Nat) : ∀ n o, Ge o (extJ t e i k n o)
  | 0, _ => fun _ _ => Int.le_refl _
  | n + 1, o => ge_trans (extJ_ge t e i k n o) (ext1_ge t e i k n _)
theorem extK_ge (t e : Tb) (i : Nat) : ∀ n o, Ge o (extK t e i n o)
  | 0, _ => fun _ _ => Int.le_refl _
  | n + 1, o => ge_trans (extK_ge t e i n o) (extJ_ge t e i n 6 _)
theorem extI_ge (t e : Tb) : ∀ n o, Ge o (extI t e n o)
  | 0, _ => fun _ _ => Int.le_refl _
  | n + 1, o => ge_trans (extI_ge t e n o) (extK_ge t e n 6 _)
theorem ext_ge (t e : Tb) : Ge t (ext t e) := extI_ge t e 6 t

theorem extJ_has {t e : Tb} {i k : Nat} (h1 : t i k ≠ -1) : ∀ n o j, j < n → e k j ≠ -1 → t i k + e k j ≤ extJ t e i k n o i j
  | 0, _, j, hj, _ => absurd hj (by omega)
  | n + 1, o, j, hj, h2 => by
    by_cases h : j = n
    · subst h
      show _ ≤ ext1 t e i k j (extJ t e i k j o) i j
      unfold ext1
      rw [if_pos ⟨h1, h2⟩, put_same]
      omega
    · exact Int.le_trans (extJ_has h1 n o j (by omega) h2) (ext1_ge t e i k n _ i j)
theorem extK_has {t e : Tb} {i : Nat} : ∀ n o k j, k < n → j < 6 → t i k ≠ -1 → e k j ≠ -1 → t i k + e k j ≤ extK t e i n o i j
  | 0, _, k, _, hk, _, _, _ => absurd hk (by omega)
  | n + 1, o, k, j, hk, hj, h1, h2 => by
    by_cases h : k = n
    · subst h
      exact extJ_has h1 6 _ j hj h2
    · exact Int.le_trans (extK_has n o k j (by omega) hj h1 h2) (extJ_ge t e i n 6 _ i j)
theorem extI_has {t e : Tb} : ∀ n o i k j, i < n → k < 6 → j < 6 → t i k ≠ -1 → e k j ≠ -1 → t i k + e k j ≤ extI t e n o i j
  | 0, _, i, _, _, hi, _, _, _, _ => absurd hi (by omega)
  | n + 1, o, i, k, j, hi, hk, hj, h1, h2 => by
    by_cases h : i = n
    · subst h
      exact extK_has 6 _ k j hk hj h1 h2
    · exact Int.le_trans (extI_has n o i k j (by omega) hk hj h1 h2) (extK_ge t e n 6 _ i j)
theorem ext_has {t e : Tb} {i k j : Nat} (hi : i < 6) (hk : k < 6) (hj : j < 6) (h1 : t i k ≠ -1) (h2 : e k j ≠ -1) : t i k + e k j ≤ ext t e i j := extI_has 6 t i k j hi hk hj h1 h2

/-- each place is as it was, or a way with one more edge -/
def Of (t e o : Tb) : Prop := ∀ a b, o a b = t a b ∨ ∃ k, k < 6 ∧ t a k ≠ -1 ∧ e k b ≠ -1 ∧ o a b = t a k + e k b
theorem Of.ext1 {t e o : Tb} (h : Of t e o) {i k : Nat} (hk : k < 6) (j : Nat) : Of t e (ext1 t e i k j o) := by
  unfold Cs.ext1
  split
  · rename_i hc
    intro a b
    by_cases hab : a = i ∧ b = j
    · obtain ⟨rfl, rfl⟩ := hab
      rw [put_same]
      by_cases hm : o a b ≤ t a k + e k b
      · exact .inr ⟨k, hk, hc.1, hc.2, by omega⟩
      · rw [show max (o a b) (t a k + e k b) = o a b by omega]
        exact h a b
    · rw [put_other o _ hab]
      exact h a b
  · exact h
theorem Of.extJ {t e o : Tb} (h : Of t e o) {i k : Nat} (hk : k < 6) : ∀ n, Of t e (extJ t e i k n o)
  | 0 => h
  | n + 1 => (Of.extJ h hk n).ext1 hk n
theorem Of.extK {t e o : Tb} (h : Of t e o) {i : Nat} : ∀ n, n ≤ 6 → Of t e (extK t e i n o)
  | 0, _ => h
  | n + 1, hn => (Of.extK h n (by omega)).extJ (by omega) 6
theorem Of.extI {t e o : Tb} (h : Of t e o) : ∀ n, Of t e (extI t e n o)
  | 0 => h
  | n + 1 => (Of.extI h n).extK 6 (by omega)
theorem ext_of (t e : Tb) : Of t e (ext t e) := Of.extI (fun _ _ => .inl rfl) 6

/-- ways with up to n + 1 edges -/
def ways (e : Tb) : Nat → Tb
  | 0 => e
  | n + 1 => ext (ways e n) e
theorem ways_mono (e : Tb) (n i j : Nat) : ways e n i j ≤ ways e (n + 1) i j := ext_ge (ways e n) e i j
theorem ways_le (e : Tb) (i j : Nat) (n : Nat) : ∀ m, ways e n i j ≤ ways e (n + m) i j
  | 0 => Int.le_refl _
  | m + 1 => Int.le_trans (ways_le e i j n m) (ways_mono e (n + m) i j)
theorem ways_bd {e : Tb} (he : ∀ i j, -1 ≤ e i j ∧ e i j ≤ 1) : ∀ n i j, -1 ≤ ways e n i j ∧ ways e n i j ≤ (n : Int) + 1
  | 0, i, j => by have := he i j; exact ⟨this.1, by show e i j ≤ _; omega⟩
  | n + 1, i, j => by
    have h0 := ways_bd he n i j
    have hm := ways_mono e n i j
    rcases ext_of (ways e n) e i j with h | ⟨k, _, _, _, h⟩
    · have h' : ways e (n + 1) i j = ways e n i j := h
      omega
    · have h' : ways e (n + 1) i j = ways e n i k + e k j := h
      have h1 := ways_bd he n i k
      have h2 := he k j
      omega
/-- tables that are equal at the six nodes -/
def Same (a b : Tb) : Prop := ∀ i j, i < 6 → j < 6 → a i j = b i j

section
variable {l : List Cn} {n : Nat}
/-- a table that stays is closed -/
theorem fix_trans (h : Same (ways (start l) (n + 1)) (ways (start l) n)) : ∀ m i k j, i < 6 → k < 6 → j < 6 → 0 ≤ ways (start l) n i k → 0 ≤ ways (start l) m k j → ways (start l) n i k + ways (start l) m k j ≤ ways (start l) n i j := by
  intro m
  induction m with
  | zero =>
    intro i k j hi hk hj h1 h2
    rw [← h i j hi hj]
    exact ext_has hi hk hj (by omega) (by show start l k j ≠ -1; have : 0 ≤ start l k j := h2; omega)
  | succ m ih =>
    intro i k j hi hk hj h1 h2
    rcases ext_of (ways (start l) m) (start l) k j with hx | ⟨p, hp, q1, q2, hx⟩
    · have hx' : ways (start l) (m + 1) k j = ways (start l) m k j := hx
      rw [hx'] at h2 ⊢
      exact ih i k j hi hk hj h1 h2
    · have hx' : ways (start l) (m + 1) k j = ways (start l) m k p + start l p j := hx
      have b1 := (ways_bd (start_le l) m k p).1
      have c1 := ih i k p hi hk hp h1 (by omega)
      have c2 : ways (start l) n i p + start l p j ≤ ways (start l) n i j := by
        rw [← h i j hi hj]
        exact ext_has hi hp hj (by omega) q2
      omega
theorem le_relax {d T : Tb} (hT : ∀ i k j, i < 6 → k < 6 → j < 6 → 0 ≤ T i k → 0 ≤ T k j → T i k + T k j ≤ T i j) (h : ∀ i j, i < 6 → j < 6 → d i j ≤ T i j) {k i j : Nat} (hk : k < 6) (hi : i < 6) (hj : j < 6) : ∀ a b, a < 6 → b < 6 → relax k i j d a b ≤ T a b := by
  intro a b ha hb
  unfold relax
  split
  · rename_i hc
    by_cases hab : a = i ∧ b = j
    · obtain ⟨rfl, rfl⟩ := hab
      rw [put_same]
      have h1 := h a k ha hk
      have h2 := h k b hk hb
      have h3 := hT a k b ha hk hb (by omega) (by omega)
      have h4 := h a b ha hb
      omega
    · rw [put_other d _ hab]
      exact h a b ha hb
  · exact h a b ha hb
theorem le_relaxJ {d T : Tb} (hT : ∀ i k j, i < 6 → k < 6 → j < 6 → 0 ≤ T i k → 0 ≤ T k j → T i k + T k j ≤ T i j) (h : ∀ i j, i < 6 → j < 6 → d i j ≤ T i j) {k i : Nat} (hk : k < 6) (hi : i < 6) : ∀ n, n ≤ 6 → ∀ a b, a < 6 → b < 6 → relaxJ k i n d a b ≤ T a b
  | 0, _ => h
  | n + 1, hn => le_relax hT (le_relaxJ hT h hk hi n (by omega)) hk hi (by omega)
theorem le_relaxI {d T : Tb} (hT : ∀ i k j, i < 6 → k < 6 → j < 6 → 0 ≤ T i k → 0 ≤ T k j → T i k + T k j ≤ T i j) (h : ∀ i j, i < 6 → j < 6 → d i j ≤ T i j) {k : Nat} (hk : k < 6) : ∀ n, n ≤ 6 → ∀ a b, a < 6 → b < 6 → relaxI k n d a b ≤ T a b
  | 0, _ => h
  | n + 1, hn => le_relaxJ hT (le_relaxI hT h hk n (by omega)) hk (by omega) 6 (by omega)
theorem le_relaxK {d T : Tb} (hT : ∀ i k j, i < 6 → k < 6 → j < 6 → 0 ≤ T i k → 0 ≤ T k j → T i k + T k j ≤ T i j) (h : ∀ i j, i < 6 → j < 6 → d i j ≤ T i j) : ∀ n, n ≤ 6 → ∀ a b, a < 6 → b < 6 → relaxK n d a b ≤ T a b
  | 0, _ => h
  | n + 1, hn => le_relaxI hT (le_relaxK hT h n (by omega)) (by omega) 6 (by omega)
theorem ways_start (l : List Cn) (n i j : Nat) : start l i j ≤ ways (start l) n i j := by
  have := ways_le (start l) i j 0 n
  rw [Nat.zero_add] at this
  exact this
theorem tab_le_fix (h : Same (ways (start l) (n + 1)) (ways (start l) n)) : ∀ i j, i < 6 → j < 6 → tab l i j ≤ ways (start l) n i j :=
  le_relaxK (fun i k j hi hk hj h1 h2 => fix_trans h n i k j hi hk hj h1 h2) (fun i j _ _ => ways_start l n i j) 6 (by omega)
/-- where the table stays, no way goes round and grows -/
theorem fix_flat (h : Same (ways (start l) (n + 1)) (ways (start l) n)) : flat l = true := by
  rw [flat_iff]
  intro i hi
  have h1 := tab_le_fix h i i hi hi
  have h2 := fix_trans h n i i i hi hi hi
  omega
theorem ways_tab (hf : flat l = true) : ∀ n i j, i < 6 → j < 6 → ways (start l) n i j ≤ tab l i j
  | 0, i, j, _, _ => tab_ge l i j
  | n + 1, i, j, hi, hj => by
    rcases ext_of (ways (start l) n) (start l) i j with hx | ⟨k, hk, q1, q2, hx⟩
    · have hx' : ways (start l) (n + 1) i j = ways (start l) n i j := hx
      rw [hx']
      exact ways_tab hf n i j hi hj
    · have hx' : ways (start l) (n + 1) i j = ways (start l) n i k + start l k j := hx
      rw [hx']
      have b1 := (ways_bd (start_le l) n i k).1
      have b2 := (start_le l k j).1
      have c1 := ways_tab hf n i k hi hk
      have c2 := tab_ge l k j
      have c3 := tab_closed hf hi hj hk (by omega) (by omega)
      omega
theorem fix_tab (h : Same (ways (start l) (n + 1)) (ways (start l) n)) : Same (ways (start l) n) (tab l) := fun i j hi hj =>
  Int.le_antisymm (ways_tab (fix_flat h) n i j hi hj) (tab_le_fix h i j hi hj)
end

/-- a least one of finitely many -/
theorem least_of (P : Nat → Prop) (f : Nat → Int) : ∀ N, (∃ j, j < N ∧ P j) → ∃ j, j < N ∧ P j ∧ ∀ k, k < N → P k → f j ≤ f k
  | 0, h => by obtain ⟨j, hj, _⟩ := h; omega
  | N + 1, h => by
    by_cases hN : P N
    · by_cases hr : ∃ j, j < N ∧ P j
      · obtain ⟨j, hj, hp, hm⟩ := least_of P f N hr
        by_cases hc : f j ≤ f N
        · refine ⟨j, by omega, hp, fun k hk hpk => ?_⟩
          by_cases e : k = N
          · rw [e]; exact hc
          · exact hm k (by omega) hpk
        · refine ⟨N, by omega, hN, fun k hk hpk => ?_⟩
          by_cases e : k = N
          · rw [e]; exact Int.le_refl _
          · have := hm k (by omega) hpk; omega
      · refine ⟨N, by omega, hN, fun k hk hpk => ?_⟩
        by_cases e : k = N
        · rw [e]; exact Int.le_refl _
        · exact absurd ⟨k, by omega, hpk⟩ hr
    · obtain ⟨j, hj, hp⟩ := h
      have hjn : j ≠ N := fun e => hN (e ▸ hp)
      obtain ⟨j, hj, hp, hm⟩ := least_of P f N ⟨j, by omega, hp⟩
      refine ⟨j, by omega, hp, fun k hk hpk => ?_⟩
      have hkn : k ≠ N := fun e => hN (e ▸ hpk)
      exact hm k (by omega) hpk

section
variable {l : List Cn}
/-- node j's place in row i stays from n on -/
def Fin' (l : List Cn) (i n j : Nat) : Prop := ∀ m, ways (start l) (n + m) i j = ways (start l) n i j
theorem fin_step (hok : ok l) (hf : flat l = true) {i n : Nat} (hi6 : i < 6) (h : ∃ j, j < 6 ∧ ¬ Fin' l i n j) : ∃ j, j < 6 ∧ ¬ Fin' l i n j ∧ Fin' l i (n + 1) j := by
  have hk : Keeps (least l) (start l) := keeps_start (least_sat hok hf).1 hok (least_sat hok hf).2
  by_cases hA : ∃ j, j < 6 ∧ (¬ Fin' l i n j ∧ 0 ≤ ways (start l) (n + 1) i j)
  · obtain ⟨j, hj, ⟨hnf, h0⟩, hm⟩ := least_of (fun j => ¬ Fin' l i n j ∧ 0 ≤ ways (start l) (n + 1) i j) (fun j => least l j - ways (start l) (n + 1) i j) 6 hA
    have main : ∀ m x, x < 6 → ¬ Fin' l i n x → 0 ≤ ways (start l) (n + 1 + m) i x → least l j - ways (start l) (n + 1) i j ≤ least l x - ways (start l) (n + 1 + m) i x := by
      intro m
      induction m with
      | zero => intro x hx hn h0; exact hm x hx ⟨hn, h0⟩
      | succ m ih =>
        intro x hx hn h1
        rcases ext_of (ways (start l) (n + 1 + m)) (start l) i x with hx' | ⟨k, hk6, q1, q2, hx'⟩
        · have e : ways (start l) (n + 1 + (m + 1)) i x = ways (start l) (n + 1 + m) i x := hx'
          rw [e] at h1 ⊢
          exact ih x hx hn h1
        · have e : ways (start l) (n + 1 + (m + 1)) i x = ways (start l) (n + 1 + m) i k + start l k x := hx'
          have b1 := (ways_bd (start_le l) (n + 1 + m) i k).1
          have b2 := (start_le l k x).1
          have c1 := hk k x (by omega)
          by_cases hfk : Fin' l i n k
          · have e2 : ways (start l) (n + 1 + m) i k = ways (start l) n i k := by
              have := hfk (1 + m)
              rw [← Nat.add_assoc] at this
              exact this
            have c2 : ways (start l) n i k + start l k x ≤ ways (start l) (n + 1) i x := ext_has hi6 hk6 hx (by omega) q2
            have c3 := hm x hx ⟨hn, by omega⟩
            have c3' : least l j - ways (start l) (n + 1) i j ≤ least l x - ways (start l) (n + 1) i x := c3
            omega
          · have c4 := ih k hk6 hfk (by omega)
            omega
    refine ⟨j, hj, hnf, fun m => ?_⟩
    have c1 := ways_le (start l) i j (n + 1) m
    have c2 := main m j hj hnf (by omega)
    omega
  · exfalso
    obtain ⟨j, hj, hn⟩ := h
    have hst : ∀ x, x < 6 → ways (start l) (n + 1) i x = ways (start l) n i x := fun x hx => by
      by_cases hfx : Fin' l i n x
      · exact hfx 1
      · have h1 : ¬ 0 ≤ ways (start l) (n + 1) i x := fun h0 => hA ⟨x, hx, hfx, h0⟩
        have h2 := ways_mono (start l) n i x
        have h3 := (ways_bd (start_le l) n i x).1
        omega
    have all : ∀ m x, x < 6 → ways (start l) (n + m) i x = ways (start l) n i x := by
      intro m
      induction m with
      | zero => intro x _; rfl
      | succ m ih =>
        intro x hx
        have hmo := ways_mono (start l) (n + m) i x
        rw [ih x hx] at hmo
        refine Int.le_antisymm ?_ hmo
        rcases ext_of (ways (start l) (n + m)) (start l) i x with hx' | ⟨k, hk6, q1, q2, hx'⟩
        · have e : ways (start l) (n + (m + 1)) i x = ways (start l) (n + m) i x := hx'
          rw [e, ih x hx]
          exact Int.le_refl _
        · have e : ways (start l) (n + (m + 1)) i x = ways (start l) (n + m) i k + start l k x := hx'
          rw [ih k hk6] at e q1
          rw [e, ← hst x hx]
          exact ext_has hi6 hk6 hx q1 q2
    exact hn fun m => all m j hj
theorem fin_mono {i n j : Nat} (h : Fin' l i n j) : Fin' l i (n + 1) j := fun m => by
  have h1 := h (1 + m)
  have h2 := h 1
  rw [← Nat.add_assoc] at h1
  rw [h1, h2]
theorem fin_own (hf : flat l = true) {i : Nat} (hi : i < 6) : Fin' l i 0 i := fun m => by
  have h1 := ways_tab hf (0 + m) i i hi hi
  have h2 := ways_tab hf 0 i i hi hi
  have h3 := ways_start l (0 + m) i i
  have h4 := ways_start l 0 i i
  have h5 := start_base l i i
  have h6 : base i i = 0 := if_pos (.inl rfl)
  have h7 := tab_diag hf hi
  omega
open Classical in
/-- how many places of a row stay from n on -/
noncomputable def fins (l : List Cn) (i n : Nat) (j : Nat) : Nat := if Fin' l i n j then 1 else 0
theorem fins_le (i n j : Nat) : fins l i n j ≤ 1 := by unfold fins; split <;> omega
theorem fins_mono (i n j : Nat) : fins l i n j ≤ fins l i (n + 1) j := by
  unfold fins
  by_cases h : Fin' l i n j
  · rw [if_pos h, if_pos (fin_mono h)]; exact Nat.le_refl _
  · rw [if_neg h]; exact Nat.zero_le _
theorem fins_new {i n j : Nat} (h1 : ¬ Fin' l i n j) (h2 : Fin' l i (n + 1) j) : fins l i n j + 1 ≤ fins l i (n + 1) j := by
  unfold fins
  rw [if_neg h1, if_pos h2]
  omega
def cnt (f : Nat → Nat) : Nat := f 0 + f 1 + f 2 + f 3 + f 4 + f 5
theorem cnt_one (f : Nat → Nat) {j : Nat} (hj : j < 6) : f j ≤ cnt f := by
  unfold cnt
  obtain rfl | rfl | rfl | rfl | rfl | rfl : j = 0 ∨ j = 1 ∨ j = 2 ∨ j = 3 ∨ j = 4 ∨ j = 5 := by omega
  all_goals omega
theorem cnt_more (f g : Nat → Nat) (h : ∀ j, f j ≤ g j) {j : Nat} (hj : j < 6) (hs : f j + 1 ≤ g j) : cnt f + 1 ≤ cnt g := by
  unfold cnt
  have h0 := h 0; have h1 := h 1; have h2 := h 2; have h3 := h 3; have h4 := h 4; have h5 := h 5
  obtain rfl | rfl | rfl | rfl | rfl | rfl : j = 0 ∨ j = 1 ∨ j = 2 ∨ j = 3 ∨ j = 4 ∨ j = 5 := by omega
  all_goals omega
theorem cnt_full (f : Nat → Nat) (h : ∀ j, f j ≤ 1) (hc : 6 ≤ cnt f) {j : Nat} (hj : j < 6) : f j = 1 := by
  unfold cnt at hc
  have h0 := h 0; have h1 := h 1; have h2 := h 2; have h3 := h 3; have h4 := h 4; have h5 := h 5
  obtain rfl | rfl | rfl | rfl | rfl | rfl : j = 0 ∨ j = 1 ∨ j = 2 ∨ j = 3 ∨ j = 4 ∨ j = 5 := by omega
  all_goals omega
theorem fin_count (hok : ok l) (hf : flat l = true) {i : Nat} (hi : i < 6) : ∀ n, (∀ j, j < 6 → Fin' l i n j) ∨ n + 1 ≤ cnt (fins l i n)
  | 0 => .inr (by
      have h := cnt_one (fins l i 0) hi
      have : fins l i 0 i = 1 := if_pos (fin_own hf hi)
      omega)
  | n + 1 => by
    rcases fin_count hok hf hi n with h | h
    · exact .inl fun j hj => fin_mono (h j hj)
    · by_cases ha : ∃ j, j < 6 ∧ ¬ Fin' l i n j
      · obtain ⟨j, hj, h1, h2⟩ := fin_step hok hf hi ha
        have := cnt_more (fins l i n) (fins l i (n + 1)) (fun j => fins_mono i n j) hj (fins_new h1 h2)
        exact .inr (by omega)
      · refine .inl fun j hj => fin_mono ?_
        by_cases hx : Fin' l i n j
        · exact hx
        · exact absurd ⟨j, hj, hx⟩ ha
/-- a list that can be satisfied: the table stays by the sixth time -/
theorem ways_stay (hok : ok l) (hf : flat l = true) : Same (ways (start l) 6) (ways (start l) 5) := fun i j hi hj => by
  rcases fin_count hok hf hi 5 with h | h
  · exact h j hj 1
  · have h1 := cnt_full (fins l i 5) (fun j => fins_le i 5 j) h hj
    unfold fins at h1
    by_cases hx : Fin' l i 5 j
    · exact hx 1
    · rw [if_neg hx] at h1
      cases h1
end
end Go.Proofs.Ytfmhmnpmdjpmeaa.Cs
