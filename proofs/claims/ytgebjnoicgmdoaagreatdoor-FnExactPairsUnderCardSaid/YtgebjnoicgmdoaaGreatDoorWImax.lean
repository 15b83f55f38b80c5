/- A pile of rows of atoms that may begin inside their blocks; the steps of the pile for a sign. -/
/- The program's level without imax for a sign. -/
import Derived.Test.YtgebjnoicgmdoaaGreatDoorPileT
import Derived.Test.YtgebjnoicgmdoaaGreatDoorNFree
import Derived.Test.YtgebjnoicgmdoaaGreatDoorSlc
import Derived.Test.YtgebjnoicgmdoaaGreatDoorNMap
import Derived.Test.YtgebjnoicgmdoaaGreatDoorNMath4
import Derived.Deep.RegionLaw
import Derived.Deep.AppendLies

namespace Go.Proofs.YtgebjnoicgmdoaaGreatDoor
open Go.RowKit

namespace Nm
theorem wstep_ok {s : Int} {t : At} {st st' : List (List At)} (h : wstep s t st = some st') : Lv.tkOk t = true := by
  unfold wstep at h
  by_cases hok : Lv.tkOk t = true
  · exact hok
  · rw [if_neg hok] at h; cases h
theorem wstep_zero {s y : Int} {st st' : List (List At)} (h : wstep s (0, y) st = some st') : st' = [(-1, 0)] :: st := by
  have hok := wstep_ok h
  unfold wstep at h
  rw [if_pos hok] at h
  simp at h
  exact h.symm
theorem wstep_par {s y : Int} {st st' : List (List At)} (h : wstep s (4, y) st = some st') : st' = [pl s (y, 0)] :: st := by
  have hok := wstep_ok h
  unfold wstep at h
  rw [if_pos hok] at h
  simp at h
  exact h.symm
theorem wstep_succ {s y : Int} {st st' : List (List At)} (h : wstep s (1, y) st = some st') : ∃ a r, st = a :: r ∧ st' = up 1 a :: r := by
  have hok := wstep_ok h
  unfold wstep at h
  rw [if_pos hok] at h
  match st, h with
  | a :: r, h => simp at h; exact ⟨a, r, rfl, h.symm⟩
  | [], h => simp at h
theorem wstep_two {s op y : Int} {st st' : List (List At)} (h : wstep s (op, y) st = some st') (ho : op = 2 ∨ op = 3) : ∃ a b r, st = b :: a :: r ∧ st' = (if op = 3 ∧ zeroL b = true then [(-1, 0)] else a ++ b) :: r := by
  have hok := wstep_ok h
  unfold wstep at h
  rw [if_pos hok, if_neg (by simp; omega), if_neg (by simp; omega), if_neg (by simp; omega)] at h
  match st, h with
  | b :: a :: r, h => simp only at h; injection h with h; exact ⟨a, b, r, rfl, h.symm⟩
  | [b], h => simp at h
  | [], h => simp at h
end Nm

theorem o_apart {w : World} {base base' : Nat} {A : Option Addr} {n c n' size' : Nat} {xs ys : List Value} {e' : TypeId} {u : Value} (h : OwnO w base A n c xs) (h' : w.ownsRow base' e' size' u n' ys) (hne : 92 ≠ e') : ∀ k, (Value.slice A n c).ownBlock = some k → u.ownBlock ≠ some k := by
  intro k hk hu
  obtain ⟨cs, hb⟩ := own_blk h' k hu
  rcases h.2 with ⟨rfl, _⟩ | ⟨g, o, cur, rfl, _, hblk, _⟩
  · cases hk
  · have : g = k := by simpa [Value.ownBlock] using hk
    subst this
    have e := hblk.symm.trans hb
    injection e with e
    injection e with _ e
    exact hne e
/-- a pile of rows of atoms, its top first -/
def PileO (w : World) (base g D c : Nat) (cs : List (List (Int × Int))) : Prop :=
  cs.length = D ∧ ∃ vals : List Value, w.ownsRow base 138 1 (.slice (some ⟨g, 0, none⟩) D c) D vals ∧
    ∀ (i : Nat) (a : List (Int × Int)), cs.reverse[i]? = some a → ∃ A ca, vals[i]? = some (Value.slice A a.length ca) ∧ OwnO w base A a.length ca (tokCells a)
theorem PileO.below {w w' : World} {base g D c : Nat} {cs : List (List (Int × Int))} (h : PileO w base g D c cs) (hb : Below w.heap.size w w') : PileO w' base g D c cs := by
  obtain ⟨h1, vals, h2, h3⟩ := h
  refine ⟨h1, vals, own_below' h2 hb, fun i a ha => ?_⟩
  obtain ⟨ga, ca, q1, q2⟩ := h3 i a ha
  exact ⟨ga, ca, q1, at_below' q2 hb⟩
theorem PileO.alloc {w : World} {base g D c : Nat} {cs : List (List (Int × Int))} (h : PileO w base g D c cs) (o : Obj) : PileO (w.alloc o) base g D c cs :=
  h.below ((Below.refl _ _).alloc (Nat.le_refl _) o)
theorem PileO.drew {w : World} {base g D c : Nat} {cs : List (List (Int × Int))} (h : PileO w base g D c cs) : PileO w.drew base g D c cs := h
theorem PileO.drop {w : World} {base g D c : Nat} {cs : List (List (Int × Int))} (h : PileO w base g D c cs) (k : Nat) (hk : k ≤ D) : PileO w base g (D - k) c (cs.drop k) := by
  obtain ⟨h1, vals, h2, h3⟩ := h
  refine ⟨by rw [List.length_drop, h1], vals.take (D - k), own_take h2 (by omega), fun i a ha => ?_⟩
  rw [List.reverse_drop, h1] at ha
  have hi : i < D - k := by
    have := (List.getElem?_eq_some_iff.1 ha).1
    rw [List.length_take] at this
    omega
  rw [List.getElem?_take_of_lt hi] at ha
  obtain ⟨ga, ca, q1, q2⟩ := h3 i a ha
  exact ⟨ga, ca, by rw [List.getElem?_take_of_lt hi]; exact q1, q2⟩
theorem PileO.push {w w' : World} {base g D c ca : Nat} {A : Option Addr} {cs : List (List (Int × Int))} {a : List (Int × Int)} {v' : Value} {vals : List Value} (hD : cs.length = D)
    (h2 : w.ownsRow base 138 1 (.slice (some ⟨g, 0, none⟩) D c) D vals) (h3 : ∀ (i : Nat) (a : List (Int × Int)), cs.reverse[i]? = some a → ∃ A ca, vals[i]? = some (Value.slice A a.length ca) ∧ OwnO w base A a.length ca (tokCells a))
    (ho : OwnO w base A a.length ca (tokCells a)) (hg : w.grownBy w' (Value.slice (some ⟨g, 0, none⟩) D c).ownBlock)
    (hown : w'.ownsRow base 138 1 v' (D + 1) (vals ++ [Value.slice A a.length ca])) : ∃ g' c', v' = .slice (some ⟨g', 0, none⟩) (D + 1) c' ∧ PileO w' base g' (D + 1) c' (a :: cs) := by
  obtain ⟨g', c', rfl⟩ := own_form hown (by omega)
  refine ⟨g', c', rfl, by rw [List.length_cons, hD], _, hown, fun i x hx => ?_⟩
  have hvl : vals.length = D := by have := h2.1; omega
  have hk : ∀ {gx : Option Addr} {cx : Nat} {x : List (Int × Int)}, OwnO w base gx x.length cx (tokCells x) → OwnO w' base gx x.length cx (tokCells x) := fun h => at_kept h hg (o_apart h h2 (by decide))
  rw [List.reverse_cons] at hx
  by_cases hi : i < D
  · rw [List.getElem?_append_left (by rw [List.length_reverse, hD]; exact hi)] at hx
    obtain ⟨gx, cx, q1, q2⟩ := h3 i x hx
    exact ⟨gx, cx, by rw [List.getElem?_append_left (by omega)]; exact q1, hk q2⟩
  · have hiD : i = D := by
      have := (List.getElem?_eq_some_iff.1 hx).1
      simp at this
      omega
    subst hiD
    rw [List.getElem?_append_right (by rw [List.length_reverse, hD]; exact Nat.le_refl _), List.length_reverse, hD, Nat.sub_self] at hx
    obtain rfl : a = x := by simpa using hx
    exact ⟨A, ca, by rw [List.getElem?_append_right (by omega), hvl, Nat.sub_self]; rfl, hk ho⟩
theorem PileO.top {w : World} {base g d c ca : Nat} {A : Option Addr} {s : List (List (Int × Int))} {a a' : List (Int × Int)} (h : PileO w base g (d + 1) c (a :: s)) (ho : OwnO w base A a'.length ca (tokCells a')) :
    PileO (w.setCell ⟨g, d, none⟩ (.slice A a'.length ca)) base g (d + 1) c (a' :: s) := by
  obtain ⟨h1, vals, h2, h3⟩ := h
  have hs : s.length = d := by simpa using h1
  have hvl : vals.length = d + 1 := by have := h2.1; omega
  have hk : ∀ {gx : Option Addr} {cx : Nat} {x : List (Int × Int)}, OwnO w base gx x.length cx (tokCells x) → OwnO (w.setCell ⟨g, d, none⟩ (.slice A a'.length ca)) base gx x.length cx (tokCells x) := fun h => at_kept h (put_grown w g d _) (o_apart h h2 (by decide))
  refine ⟨by simpa using hs, _, own_put h2 d _, fun i x hx => ?_⟩
  rw [List.reverse_cons] at hx
  by_cases hi : i < d
  · have hx2 : (a :: s).reverse[i]? = some x := by
      rw [List.reverse_cons, List.getElem?_append_left (by rw [List.length_reverse, hs]; exact hi)]
      rw [List.getElem?_append_left (by rw [List.length_reverse, hs]; exact hi)] at hx
      exact hx
    obtain ⟨gx, cx, q1, q2⟩ := h3 i x hx2
    exact ⟨gx, cx, by rw [List.getElem?_set_ne (by omega)]; exact q1, hk q2⟩
  · have hid : i = d := by
      have := (List.getElem?_eq_some_iff.1 hx).1
      simp at this
      omega
    subst hid
    rw [List.getElem?_append_right (by rw [List.length_reverse, hs]; exact Nat.le_refl _), List.length_reverse, hs, Nat.sub_self] at hx
    obtain rfl : a' = x := by simpa using hx
    exact ⟨A, ca, by rw [List.getElem?_set_self (by omega)], hk ho⟩
theorem PileO.at {w : World} {base g D c i : Nat} {cs : List (List (Int × Int))} {a : List (Int × Int)} (h : PileO w base g D c cs) (ha : cs.reverse[i]? = some a) :
    ∃ A ca, w.cell? ⟨g, i, none⟩ = some (.slice A a.length ca) ∧ OwnO w base A a.length ca (tokCells a) := by
  obtain ⟨h1, vals, h2, h3⟩ := h
  obtain ⟨ga, ca, q1, q2⟩ := h3 i a ha
  have hk := h2.cells (g := g) rfl i _ q1
  rw [own_adds] at hk
  exact ⟨ga, ca, hk, q2⟩
theorem PileO.cap {w : World} {base g D c : Nat} {cs : List (List (Int × Int))} (h : PileO w base g D c cs) : D ≤ c := by
  obtain ⟨_, vals, hh, _⟩ := h
  exact own_capR hh
end Go.Proofs.YtgebjnoicgmdoaaGreatDoor

namespace Go.Proofs.YtgebjnoicgmdoaaGreatDoor
open Go.RowKit

theorem own_slice {w : World} {base : Nat} {e : TypeId} {size n : Nat} {v : Value} {xs : List Value} (h : w.ownsRow base e size v n xs) : ∃ A c, v = .slice A n c := by
  rcases h.2 with ⟨h0, h1⟩ | ⟨g, c, _, hv, _⟩
  · subst h1; exact ⟨none, 0, h0⟩
  · exact ⟨_, c, hv⟩
theorem wlen_runT {s : Int} {l : List (Int × Int)} {st : List (List (Int × Int))} (h : Nm.wrun s l [] = some st) : st.length ≤ l.length := by
  have h1 := Nm.wrun_height (s := s) (l := l) []
  rw [h] at h1
  have key : ∀ (l : List (Int × Int)) (n m : Int), Lv.hts l n = some m → m ≤ n + l.length := by
    intro l
    induction l with
    | nil => intro n m h; simp only [Lv.hts] at h; injection h with h; subst h; simp
    | cons t r ih =>
      intro n m h
      simp only [Lv.hts] at h
      split at h
      · have := ih _ _ h
        have := Lv.takes_bd t.1
        rw [List.length_cons]
        omega
      · cases h
  have := key l 0 st.length (by simpa using h1.symm)
  omega
theorem newsT2 (X : World) (o : Obj) (p x : Int) : ∀ j u, (tokCells [(p, x)])[j]? = some u → ((X.alloc o).alloc (.cells #[.int .i64 p, .int .i64 x] 51)).cell? ((⟨X.heap.size + 1, 0, none⟩ : Addr).add j) = some u := by
  have h := World.news_of_block (w := (X.alloc o).alloc (.cells #[.int .i64 p, .int .i64 x] 51)) (cs := #[.int .i64 p, .int .i64 x]) (t := 51) (fr := (0, 0)) (heap_alloc_new (X.alloc o) _)
  rw [World.size_alloc] at h
  exact h

set_option maxRecDepth 100000 in
set_option maxHeartbeats 12800000 in
theorem withoutImax_any (w : World) (B : Nat) (A : Option Addr) (n c : Nat) (l : List (Int × Int)) (s : Int) (T : TypeId) (pv : Value) (h0 : 1 < B) (hB : B ≤ w.heap.size)
    (hl : TokR w B A n l) (hok : Lv.levelOk l = true) (hs : Sg.isSign s = true) (hE : ErrAt w T pv) :
    Calls Tryz.prog 124 #[.slice A n c, .int .i64 s] w fun e w' => ∃ g cp ts, e = .returned (.slice (some ⟨g, 0, none⟩) ts.length cp) ∧ OwnT w' w.heap.size (some ⟨g, 0, none⟩) ts.length cp ts ∧ Nm.TRel ts (Nm.wl s l) ∧ ts.length ≤ 24 ∧ Below w.heap.size w w' := by
  obtain ⟨i0, hi, hz0, hz1, hz2⟩ := info_parts info_tok
  obtain ⟨j0, ji, jz0, jz1, jz2⟩ := info_parts info_toks
  have hn24 : n ≤ 24 := by rw [← hl.1]; exact (ok_lenN hok).2
  have hn1 : 1 ≤ n := by rw [← hl.1]; exact (ok_lenN hok).1
  have HO := Lib.hid hok
  have HSG := Lib.hid hs
  have HEE := Lib.hid hE
  clear hok hs hE
  have HP0 : Hid (PileT w w.heap.size (.slice none 0 0) 0 [] [] (fun _ => 0) (fun _ => 0)) := ⟨rfl, World.ownsRow_nil _ _ _ _, fun i j hi => by omega, fun i hi => by omega⟩
  go_enter Tryz.func124, Tryz.ntmps124
  go_wp2
  go_loopw [5, 11] (fun v i wr => ∃ (k : Nat) (st : List (List (Int × Int))) (ts : List (List (Int × Int))) (D : Nat) (vals : List Value) (G C : Nat → Nat), k ≤ n ∧ i = .int .i64 k ∧ Hid (Nm.wrun s (l.take k) [] = some st) ∧ Hid (Nm.TS ts st) ∧ (ts.map List.length).sum ≤ k ∧ Hid (PileT wr w.heap.size v D ts.reverse vals G C) ∧ Below w.heap.size w wr) (fun _ i _ => n - (intOf i).toNat)
  case atStart => exact ⟨0, [], [], 0, [], _, _, Nat.zero_le _, rfl, Lib.hid rfl, Lib.hid trivial, by simp, HP0, Below.refl _ _⟩
  case round =>
    rename_i vst _
    obtain ⟨k, st, ts, D, vals, G, C, hk, rfl, HR, HTS, hsum, HP, hbel⟩ := hrel
    have hszr := hbel.size
    have hDl : ts.length = D := by have := HP.out.1; rw [List.length_reverse] at this; exact this
    have hDs : st.length = D := by rw [← hDl]; exact HTS.out.len.symm
    have hD24 : D ≤ 24 := by
      have h1 := wlen_runT HR.out
      rw [List.length_take] at h1
      omega
    have hfine := Nm.wfine_take HR.out (by omega)
    obtain ⟨Av, cv, hv⟩ := own_slice HP.out.2.1
    subst hv
    by_cases hlt : k < n
    · obtain ⟨b, off, rfl, hb, hc⟩ := hl.2 (by omega)
      obtain ⟨x1, x2⟩ := hc k hlt
      have hkl : k < l.length := by rw [hl.1]; exact hlt
      obtain ⟨t, ht⟩ : ∃ t, l.getD k (0, 0) = t := ⟨_, rfl⟩
      have k1 := (hbel.cell (p := ⟨b, off + k * 2, none⟩) (by show b < _; omega)).trans x1
      have k2 := (hbel.cell (p := ⟨b, off + k * 2 + 1, none⟩) (by show b < _; omega)).trans x2
      rw [ht] at k1 k2
      have hki : (k : Int) < (n : Int) := by omega
      obtain ⟨st', hst'⟩ := Nm.wrun_some (s := s) HO.out (k + 1)
      have HR' := Lib.hid hst'
      have hps : Nm.wstep s (l.getD k (0, 0)) st = some st' := by
        have h := Nm.wrun_take_succ s l k hkl []
        rw [hst', HR.out] at h
        exact h.symm
      rw [ht] at hps
      have htk := Nm.wstep_ok hps
      obtain ⟨op, y⟩ := t
      simp only at k1 k2
      have HL := Lib.hid hl
      have HBL := Lib.hid hbel
      have hb1 := hbel.alloc hszr (.cells #[.int .i64 op, .int .i64 y] 51)
      have hba : Below wr.heap.size wr (wr.alloc (.cells #[.int .i64 op, .int .i64 y] 51)) := (Below.refl _ _).alloc (Nat.le_refl _) _
      clear x1 x2 hc ht hst' hl hkl hbel
      rcases (show (op = 0 ∨ op = 4) ∨ op = 1 ∨ (op = 2 ∨ op = 3) by have := Lv.tk_cases htk; simp only at this; omega) with e | e | e
      · have hleaf : ∃ a, st' = a :: st ∧ Nm.TRel [leafT s (op, y)] a := by
          rcases e with rfl | rfl
          · refine ⟨_, Nm.wstep_zero hps, ?_⟩
            have hy : y = 0 := by simp [Lv.tkOk] at htk; omega
            subst hy
            exact Nm.trel_zero
          · refine ⟨_, Nm.wstep_par hps, ?_⟩
            have hy : 0 ≤ y ∧ y < 5 := by simp [Lv.tkOk] at htk; omega
            exact Nm.trel_leaf hy.1 hy.2
        obtain ⟨a, rfl, hrel⟩ := hleaf
        have HREL := Lib.hid hrel
        have HLF := Lib.hid (leafFor_any (wr.alloc (.cells #[.int .i64 op, .int .i64 y] 51)) op y s)
        generalize leafT s (op, y) = tt at HREL HLF
        obtain ⟨p', y'⟩ := tt
        simp only at HLF
        have HBA := Lib.hid hba
        have HB1 := Lib.hid hb1
        clear hps htk hfine hrel hba hb1
        rcases e with rfl | rfl
        all_goals
          go_wp2_with fail
          refine HLF.out.mono ?_
          rintro e w1 ⟨rfl, hbl⟩
          have hb01 := HBA.out.trans (hbl.mono (by simp))
          have hs1 := hb01.size
          have hp1 := (HP.out.below hb01).below (((Below.refl _ _).alloc (Nat.le_refl _) (.cells #[.int .i64 p', .int .i64 y'] 51)).alloc (by simp) (.cells #[.slice (some ⟨w1.heap.size, 0, none⟩) 1 1] 25))
          have hel : OwnT ((w1.alloc (.cells #[.int .i64 p', .int .i64 y'] 51)).alloc (.cells #[.slice (some ⟨w1.heap.size, 0, none⟩) 1 1] 25)) w.heap.size (some ⟨w1.heap.size, 0, none⟩) 1 1 [(p', y')] := own_litJ ((Blk.made w1 _ _).alloc _) (Nat.le_trans hszr hs1)
          have hbb := ((HBL.out.trans (hb01.mono hszr)).alloc (Nat.le_trans hszr hs1) (.cells #[.int .i64 p', .int .i64 y'] 51)).alloc (by simp; omega) (.cells #[.slice (some ⟨w1.heap.size, 0, none⟩) 1 1] 25)
          have hfar : ∀ i, i < D → G i ≠ w1.heap.size := fun i hi => by have := (HP.out.lt hi).2; omega
          clear hbl hb01
          go_wp2_with (at_builtin; refine wpList_append_own _ rfl (.tmp 23) (.tmp 28) 201 rfl w.heap.size 25 j0 (.slice none 0 0) 1 24 Tryz.underlying201 ji jz0 jz1 jz2 rfl (by decide) (.slice Av D cv) D vals rfl hp1.2.1 ⟨w1.heap.size + 1, 0, none⟩ 1 1 [.slice (some ⟨w1.heap.size, 0, none⟩) 1 1] rfl rfl (news_one _ _ _ _) (fun u hu => by simp at hu; subst hu; rfl) (by unfold maxLen; omega) (by omega) (by simp; omega) ?_
                       intro v' w3 hown' hgrow hnil
                       have HP3 := Lib.hid (PileT.push (x := [(p', y')]) hp1 hel hfar hgrow hown')
                       have HB3 : Hid (Below w.heap.size w w3) := hbb.grown hgrow (by simp; omega) (fun k h => (hp1.2.1.lt k h).1)
                       obtain ⟨A3, c3, rfl⟩ := own_slice hown'
                       clear hown' hgrow hnil hp1 hel hbb hfar)
          go_wp2
          go_roundw
          case rel => exact ⟨k + 1, _, [(p', y')] :: ts, D + 1, _, _, _, by omega, by go_num, HR', Lib.hid ⟨HREL.out, HTS.out⟩, by simp only [List.map_cons, List.sum_cons, List.length_cons, List.length_nil]; omega, Lib.hid (by rw [List.reverse_cons]; exact HP3.out), HB3.out⟩
          case measure => simp [intOf]; omega
      · subst e
        have hy : y = 0 := by simp [Lv.tkOk] at htk; omega
        subst hy
        obtain ⟨a, r, rfl, rfl⟩ := Nm.wstep_succ hps
        obtain ⟨ta, tr, rfl⟩ : ∃ ta tr, ts = ta :: tr := by
          cases ts with
          | nil => simp at hDl; simp at hDs; omega
          | cons ta tr => exact ⟨ta, tr, rfl⟩
        obtain ⟨d, rfl⟩ : ∃ d, D = d + 1 := ⟨tr.length, by rw [← hDl]; rfl⟩
        have hsd : tr.length = d := by simpa using hDl
        obtain ⟨g, rfl⟩ : ∃ g, Av = some ⟨g, 0, none⟩ := by
          obtain ⟨g, c, hh⟩ := own_form HP.out.2.1 (by omega)
          injection hh with e1
          exact ⟨g, e1⟩
        have hrt := rev_top ta tr d hsd []
        have hat := HP.out.at (i := d) (by omega)
        rw [hrt.1] at hat
        have hrow := (HP.out.2.2.2 d (by omega)).2
        rw [hrt.1] at hrow
        obtain ⟨La, hLa⟩ : ∃ La, ta.length = La := ⟨_, rfl⟩
        rw [hLa] at hat hrow
        have hsum2 : La + (tr.map List.length).sum ≤ k := by rw [← hLa]; simpa using hsum
        obtain ⟨gt, hgt⟩ : ∃ gt, G d = gt := ⟨_, rfl⟩
        obtain ⟨ct, hct⟩ : ∃ ct, C d = ct := ⟨_, rfl⟩
        rw [hgt, hct] at hat hrow
        have hgw : g < wr.heap.size := World.block_lt_of_cell? wr _ hat
        have hgt2 : gt < wr.heap.size := (hrow.lt gt rfl).2
        have hld : ∀ ob, (wr.alloc ob).cell? ⟨g, d, none⟩ = some (.slice (some ⟨gt, 0, none⟩) La ct) := fun ob => (((Below.refl wr.heap.size wr).alloc (Nat.le_refl _) ob).cell (p := ⟨g, d, none⟩) hgw).trans hat
        have hld2 : ∀ ob ob2, ((wr.alloc ob).alloc ob2).cell? ⟨g, d, none⟩ = some (.slice (some ⟨gt, 0, none⟩) La ct) := fun ob ob2 => ((((Below.refl wr.heap.size wr).alloc (Nat.le_refl _) ob).alloc (by simp) ob2).cell (p := ⟨g, d, none⟩) hgw).trans hat
        have hw1 : IntKind.i64.wrap ((d : Int) + 1 - 1) = (d : Int) := by rw [IntKind.wrap_i64]; omega
        have n1 : (0 : Int) ≤ (d : Int) := by omega
        have n4 : (d : Int) < (d : Int) + 1 := by omega
        have hlen1 : (tokCells [((1 : Int), (0 : Int))]).length = 1 * 2 := rfl
        have HAP := Lib.hid (own_apartK HP.out.2.1 hrow (by decide))
        have HVD : Hid (vals[d]? = some (.slice (some ⟨gt, 0, none⟩) La ct)) := by
          have h9 := (HP.out.2.2.2 d (by omega)).1
          rw [hrt.1, hLa, hgt, hct] at h9
          exact h9
        have HXL : Hid ((ta ++ [((1 : Int), (0 : Int))]).length = La + 1) := by unfold Hid; rw [List.length_append, hLa]; rfl
        have HGD := Lib.hid (HP.out.2.1.lt g rfl).1
        have HROW := Lib.hid hrow
        have HHAT := Lib.hid hat
        have HRT := Lib.hid hrt
        have HLA := Lib.hid hLa
        have HGT := Lib.hid hgt
        have HB1 := Lib.hid hb1
        have HRA := Lib.hid HTS.out
        clear hps htk hfine hrow hat hrt hLa hgt hct hba hb1 hDl hDs
        go_wp2_with fail
        go_region_law (first
          | (refine step_append_lies _ (by rfl) _ _ _ (by rfl) w.heap.size 51 i0 _ 2 16 Tryz.underlying25 hi hz0 hz1 hz2 rfl (by omega) (.slice (some ⟨gt, 0, none⟩) La ct) La (tokCells ta) (by rfl) ?hown ⟨wr.heap.size + 1, 0, none⟩ 1 1 (tokCells [(1, 0)]) (by rfl) hlen1 ?hnews (tokCells_one _) (by omega) (by unfold maxLen; omega) (by omega) ?hbase (wr.heap.size + 1 + 1) (by simp) ?_
             case hown => exact (World.ownsRow.alloc (World.ownsRow.alloc HROW.out _) _)
             case hnews => exact newsT2 _ _ _ _
             case hbase => simp; omega
             intro g' cap' w3 hown' hgrow hat' hlt'
             have hpw : w3.ownsRow w.heap.size 25 1 (.slice (some ⟨g, 0, none⟩) (d + 1) cv) (d + 1) vals := by
               refine World.ownsRow.kept ?_ hgrow HAP.out
               exact ((HP.out.2.1.alloc _).alloc _)
             have s3 : w3.cell? ⟨g, d, none⟩ = some (.slice (some ⟨gt, 0, none⟩) La ct) := by
               have h9 := hpw.cells (g := g) rfl d _ HVD.out
               rw [own_adds] at h9
               exact h9
             have f3 : w3.frozen? ⟨g, d, none⟩ = false := by
               obtain ⟨cs, hblk⟩ := own_blk hpw g rfl
               exact hblk.thawed d
             have ho3 : OwnT w3 w.heap.size (some ⟨g', 0, none⟩) (ta ++ [((1 : Int), (0 : Int))]).length cap' (ta ++ [(1, 0)]) := by
               rw [HXL.out]
               unfold OwnT
               rw [tokCells_append]
               exact hown'
             have hx3 : g' = gt ∨ wr.heap.size + 2 ≤ g' := by
               rcases hat' with h | h
               · left
                 have h' : gt = g' := (by simpa [Value.ownBlock] using h)
                 exact h'.symm
               · right
                 omega
             have HPN := Lib.hid (PileT.grown (x := ta ++ [(1, 0)]) (HP.out.below (((Below.refl _ _).alloc (Nat.le_refl _) _).alloc (by simp) _).drew) (i := d) (by omega) (by rw [HGT.out]; exact hgrow) ho3 (by rw [HGT.out]; simpa using hx3))
             rw [HXL.out] at HPN
             have HBN : Hid (Below w.heap.size w w3) := ((HB1.out.alloc (by simp; omega) _).drew).grown hgrow (by simp; omega) (fun k h => by have h' : gt = k := (by simpa [Value.ownBlock] using h); have := (HROW.out.lt gt rfl).1; omega)
             clear hown' hgrow hat' hlt' hpw ho3 hx3))
        all_goals
          have HBS := Lib.hid (HBN.out.setCell (p := ⟨g, d, none⟩) HGD.out (.slice (some ⟨g', 0, none⟩) (La + 1) cap'))
          clear s3 f3
          go_wp2
          go_roundw
          case rel => exact ⟨k + 1, _, (ta ++ [(1, 0)]) :: tr, d + 1, _, _, _, by omega, by go_num, HR', Lib.hid ⟨Nm.trel_succ HTS.out.1, HTS.out.2⟩, by simp only [List.map_cons, List.sum_cons, HXL.out]; omega, Lib.hid (by rw [← HRT.out.2]; exact HPN.out), HBS.out⟩
          case measure => simp [intOf]; omega
      · obtain ⟨a, b2, r, rfl, rfl⟩ := Nm.wstep_two hps e
        obtain ⟨tb, ta, tr, rfl⟩ : ∃ tb ta tr, ts = tb :: ta :: tr := by
          match ts, hDl with
          | [], hDl => simp at hDl; simp at hDs; omega
          | [x], hDl => simp at hDl; simp at hDs; omega
          | tb :: ta :: tr, _ => exact ⟨tb, ta, tr, rfl⟩
        obtain ⟨d, rfl⟩ : ∃ d, D = d + 2 := ⟨tr.length, by rw [← hDl]; rfl⟩
        have hsd : tr.length = d := by simpa using hDl
        obtain ⟨g, rfl⟩ : ∃ g, Av = some ⟨g, 0, none⟩ := by
          obtain ⟨g, c, hh⟩ := own_form HP.out.2.1 (by omega)
          injection hh with e1
          exact ⟨g, e1⟩
        obtain ⟨hr1, hr2, hr3⟩ := rev_two tb ta tr d hsd []
        have hata := HP.out.at (i := d) (by omega)
        have hatb := HP.out.at (i := d + 1) (by omega)
        rw [hr1] at hata
        rw [hr2] at hatb
        have hrowa := (HP.out.2.2.2 d (by omega)).2
        have hrowb := (HP.out.2.2.2 (d + 1) (by omega)).2
        rw [hr1] at hrowa
        rw [hr2] at hrowb
        obtain ⟨La, hLa⟩ : ∃ La, ta.length = La := ⟨_, rfl⟩
        obtain ⟨Lb, hLb⟩ : ∃ Lb, tb.length = Lb := ⟨_, rfl⟩
        obtain ⟨Lj, hLj⟩ : ∃ Lj, (joinT s op ta tb).length = Lj := ⟨_, rfl⟩
        have hrb := HTS.out.1
        have hra := HTS.out.2.1
        have hpa := hra.pos
        have hpb := hrb.pos
        have hjl := Nm.joinT_len s op ta tb
        have hsum2 : Lb + (La + (tr.map List.length).sum) ≤ k := by rw [← hLa, ← hLb]; simpa using hsum
        rw [hLa] at hata hrowa hpa
        rw [hLb] at hatb hrowb hpb
        rw [hLj, hLa, hLb] at hjl
        obtain ⟨gta, hgta⟩ : ∃ q, G d = q := ⟨_, rfl⟩
        obtain ⟨cta, hcta⟩ : ∃ q, C d = q := ⟨_, rfl⟩
        obtain ⟨gtb, hgtb⟩ : ∃ q, G (d + 1) = q := ⟨_, rfl⟩
        obtain ⟨ctb, hctb⟩ : ∃ q, C (d + 1) = q := ⟨_, rfl⟩
        rw [hgta, hcta] at hata hrowa
        rw [hgtb, hctb] at hatb hrowb
        have hgw : g < wr.heap.size := World.block_lt_of_cell? wr _ hata
        have hld : ∀ ob, (wr.alloc ob).cell? ⟨g, d, none⟩ = some (.slice (some ⟨gta, 0, none⟩) La cta) := fun ob => (((Below.refl wr.heap.size wr).alloc (Nat.le_refl _) ob).cell (p := ⟨g, d, none⟩) hgw).trans hata
        have hld2 : ∀ ob, (wr.alloc ob).cell? ⟨g, d + 1, none⟩ = some (.slice (some ⟨gtb, 0, none⟩) Lb ctb) := fun ob => (((Below.refl wr.heap.size wr).alloc (Nat.le_refl _) ob).cell (p := ⟨g, d + 1, none⟩) hgw).trans hatb
        have hw1 : IntKind.i64.wrap ((d : Int) + 2 - 1) = (d : Int) + 1 := by rw [IntKind.wrap_i64]; omega
        have hw2 : IntKind.i64.wrap ((d : Int) + 1 - 1) = (d : Int) := by rw [IntKind.wrap_i64]; omega
        have hw3 : IntKind.i64.wrap (d : Int) = (d : Int) := by rw [IntKind.wrap_i64]; omega
        have n1 : (0 : Int) ≤ (d : Int) := by omega
        have n3 : (0 : Int) ≤ (d : Int) + 1 := by omega
        have n4 : (d : Int) < (d : Int) + 2 := by omega
        have n5 : (d : Int) + 1 < (d : Int) + 2 := by omega
        have n6 : ((d : Int) + 1).toNat = d + 1 := by omega
        have HJF : Hid (∀ X : World, Below wr.heap.size wr X → Calls Tryz.prog 151 #[.int .i64 op, .slice (some ⟨gta, 0, none⟩) La cta, .slice (some ⟨gtb, 0, none⟩) Lb ctb, .int .i64 s] X (ResT X (joinT s op ta tb))) := fun X hX =>
          joinFor_any X X.heap.size op s _ La cta ta _ Lb ctb tb T pv (by have := hX.size; omega) (Nat.le_refl _) (OwnT.reads (own_below' hrowa hX)) (by omega) hpa (OwnT.reads (own_below' hrowb hX)) (by omega) hpb (HEE.out.below ((HBL.out.trans (hX.mono hszr)).mono hB) h0)
        have hfb := hfine b2 (by simp)
        have HREL := Lib.hid (Nm.ts_join (op := op) hra hrb (by omega) HSG.out hfb.2.1 (hfine.allOk (by omega) (by simp)))
        have HLJ := Lib.hid hLj
        have HGD := Lib.hid (HP.out.2.1.lt g rfl).1
        have HR3 := Lib.hid hr3
        have HATA := Lib.hid hata
        have HB1 := Lib.hid hb1
        have hcap : d + 2 ≤ cv := own_capR HP.out.2.1
        have n7 : d + 1 ≤ cv := by omega
        have n8 : (d : Int) + 1 ≤ (cv : Int) := by omega
        have HFAR : Hid (∀ j, j < d + 2 → G j < wr.heap.size) := fun j hj => (HP.out.lt hj).2
        clear hps htk hfine hfb hrowa hrowb hata hatb hr1 hr2 hr3 hLa hLb hLj hra hrb hgta hcta hgtb hctb hba hb1 hDl hDs
        rcases e with rfl | rfl
        all_goals
          go_wp2_with fail
          go_region_law (first
            | (go_simp
               go_at_call 151
               refine (HJF.out _ ((Below.refl _ _).alloc (Nat.le_refl _) _).drew).mono ?_
               rintro e w3 ⟨gj, cj, rfl, hoj, hbj⟩
               rw [HLJ.out] at hoj ⊢
               have hb03 : Below wr.heap.size wr w3 := Below.trans (((Below.refl _ _).alloc (Nat.le_refl _) _).drew) (hbj.mono (by simp))
               have hs3 := hb03.size
               have hp3 := HP.out.below hb03
               have s3 := (hb03.cell (p := ⟨g, d, none⟩) hgw).trans HATA.out
               have f3 : w3.frozen? ⟨g, d, none⟩ = false := by
                 obtain ⟨cs, hblk⟩ := own_blk hp3.2.1 g rfl
                 exact hblk.thawed d
               have hgj := (hoj.lt gj rfl).1
               have HPN := Lib.hid ((PileT.put hp3 (i := d) (x := joinT s _ ta tb) (gx := gj) (cx := cj) (by omega) (by rw [HLJ.out]; exact own_base hoj (by simp; omega)) (fun j hj _ => by have := HFAR.out j hj; simp at hgj; omega)).take (m := d + 1) (by omega))
               rw [HLJ.out] at HPN
               have HBS := Lib.hid ((HBL.out.trans (hb03.mono hszr)).setCell (p := ⟨g, d, none⟩) HGD.out (.slice (some ⟨gj, 0, none⟩) Lj cj))
               clear hoj hbj hb03 hp3 hgj))
        all_goals
          clear s3 f3 HJF
          go_wp2
          go_roundw
          case rel => exact ⟨k + 1, _, joinT s _ ta tb :: tr, d + 1, _, _, _, by omega, by go_num, HR', Lib.hid ⟨HREL.out, HTS.out.2.2⟩, by simp only [List.map_cons, List.sum_cons, HLJ.out]; omega, Lib.hid (by rw [← HR3.out]; exact HPN.out), HBS.out⟩
          case measure => simp [intOf]; omega
    · obtain rfl : k = n := by omega
      have htl : l.take k = l := List.take_of_length_le (by rw [hl.1]; exact Nat.le_refl _)
      obtain ⟨a, ha⟩ := Nm.wrun_one (s := s) HO.out
      have hst : st = [a] := by
        have h := HR.out
        rw [htl, ha] at h
        injection h with h
        exact h.symm
      subst hst
      have HLF := Lib.hid (Nm.wl_of ha)
      obtain ⟨t, rfl⟩ : ∃ t, ts = [t] := by
        match ts, HTS.out with
        | [t], _ => exact ⟨t, rfl⟩
        | _ :: _ :: _, h => exact h.2.elim
        | [], h => exact h.elim
      obtain rfl : 1 = D := hDl
      obtain ⟨g, rfl⟩ : ∃ g, Av = some ⟨g, 0, none⟩ := by
        obtain ⟨g, c, hh⟩ := own_form HP.out.2.1 (by omega)
        injection hh with e1
        exact ⟨g, e1⟩
      have hat := HP.out.at (i := 0) (by omega)
      have hrow := (HP.out.2.2.2 0 (by omega)).2
      have HROW := Lib.hid hrow
      have HTR := Lib.hid HTS.out.1
      have h24 : t.length ≤ 24 := by simp at hsum; omega
      obtain ⟨gt, hgt⟩ : ∃ gt, G 0 = gt := ⟨_, rfl⟩
      obtain ⟨ct, hct⟩ : ∃ ct, C 0 = ct := ⟨_, rfl⟩
      rw [hgt, hct] at hat HROW
      have e0 : ([t].reverse).getD 0 [] = t := rfl
      rw [e0] at hat HROW
      obtain ⟨Lt, hLt⟩ : ∃ Lt, t.length = Lt := ⟨_, rfl⟩
      rw [hLt] at hat
      have HLT := Lib.hid hLt
      clear hrow hgt hct e0 hLt ha htl hfine
      go_wp2
      go_ret
      exact ⟨gt, ct, t, by rw [HLT.out]; rfl, HROW.out, by rw [HLF.out]; exact HTR.out, h24, hbel⟩
end Go.Proofs.YtgebjnoicgmdoaaGreatDoor
