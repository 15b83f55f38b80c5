/- NormUp, put together. -/
/- slices.Contains over tokens; LevelParams of the program and of the reference model. -/
/- NormFree of the program: the leaves of a level. -/
import Derived.Test.YtgebjnoicgmdoaaGreatDoorNMap
import Derived.Test.YtgebjnoicgmdoaaGreatDoorSlc
import Derived.Test.YtgebjnoicgmdoaaGreatDoorSpec
import Derived.Test.YtgebjnoicgmdoaaGreatDoorNOf
import Derived.Test.YtgebjnoicgmdoaaGreatDoorNMath4

namespace Go.Proofs.YtgebjnoicgmdoaaGreatDoor
open Go.RowKit

theorem up_len (l : List (Int × Int)) (x : Int) : (Nm.up x l).length = l.length := by simp [Nm.up]

/-- the first j of the atoms are raised -/
def Half (l m : List (Int × Int)) (x : Int) (j : Nat) : Prop := m.length = l.length ∧ ∀ i, i < l.length → m.getD i (0, 0) = if i < j then ((l.getD i (0, 0)).1, (l.getD i (0, 0)).2 + x) else l.getD i (0, 0)
theorem half_start (l : List (Int × Int)) (x : Int) : Half l l x 0 := ⟨rfl, fun i _ => by simp⟩
theorem half_step {l m : List (Int × Int)} {x : Int} {j : Nat} (h : Half l m x j) (hj : j < l.length) {p y : Int} (hp : l.getD j (0, 0) = (p, y)) : Half l (m.set j (p, y + x)) x (j + 1) := by
  refine ⟨by rw [List.length_set]; exact h.1, fun i hi => ?_⟩
  by_cases e : i = j
  · subst e
    rw [if_pos (by omega), hp]
    simp [List.getD_eq_getElem?_getD, h.1, hj]
  · have := h.2 i hi
    rw [List.getD_eq_getElem?_getD, List.getElem?_set_ne (by omega), ← List.getD_eq_getElem?_getD, this]
    by_cases hij : i < j
    · rw [if_pos hij, if_pos (by omega)]
    · rw [if_neg hij, if_neg (by omega)]
theorem half_end {l m : List (Int × Int)} {x : Int} (h : Half l m x l.length) : m = Nm.up x l := by
  apply List.ext_getElem (by rw [up_len]; exact h.1)
  intro i h1 h2
  have := h.2 i (by rw [← h.1]; exact h1)
  rw [if_pos (by rw [← h.1]; exact h1)] at this
  have hl : i < l.length := by rw [← h.1]; exact h1
  simpa [Nm.up, List.getD_eq_getElem?_getD, List.getElem?_eq_getElem h1, List.getElem?_eq_getElem hl] using this
theorem half_at {l m : List (Int × Int)} {x : Int} {j : Nat} (h : Half l m x j) (hj : j < l.length) : m[j]? = some (l.getD j (0, 0)) := by
  have := h.2 j hj
  rw [if_neg (by omega)] at this
  rw [← this, List.getD_eq_getElem?_getD, List.getElem?_eq_getElem (by rw [h.1]; exact hj)]
  rfl

end Go.Proofs.YtgebjnoicgmdoaaGreatDoor

namespace Go.Proofs.YtgebjnoicgmdoaaGreatDoor
open Go.RowKit

theorem mem_getD {l : List (Int × Int)} {t : Int × Int} {k : Nat} (hk : k < l.length) (h : l.getD k (0, 0) = t) : t ∈ l := by
  rw [List.getD_eq_getElem?_getD, List.getElem?_eq_getElem hk, Option.getD_some] at h
  rw [← h]; exact List.getElem_mem hk
theorem not_mem_of {l : List (Int × Int)} {t : Int × Int} (h : ∀ j, j < l.length → l.getD j (0, 0) ≠ t) : t ∉ l := by
  intro hm
  obtain ⟨j, hj, e⟩ := List.mem_iff_getElem.1 hm
  apply h j hj
  rw [List.getD_eq_getElem?_getD, List.getElem?_eq_getElem hj, Option.getD_some, e]

/-- what Index answers: a place of t, or -1 -/
def IndexOut (w : World) (l : List (Int × Int)) (t : Int × Int) (e : Ending) (w' : World) : Prop :=
  ∃ r : Int, e = .returned (.int .i64 r) ∧ Below w.heap.size w w' ∧ (t ∈ l → 0 ≤ r) ∧ (t ∉ l → r = -1) ∧ -1 ≤ r ∧ r ≤ 1048576

set_option maxRecDepth 100000 in
set_option maxHeartbeats 800000 in
theorem index_any (w : World) (B : Nat) (A : Option Addr) (n c : Nat) (l : List (Int × Int)) (a b : Int) (hB : B ≤ w.heap.size) (hl : TokR w B A n l) (hn : n ≤ 1048576) :
    Calls Tryz.prog 160 #[.slice A n c, .agg #[.int .i64 a, .int .i64 b]] w (IndexOut w l (a, b)) := by
  have HB : Hid (Below w.heap.size w (w.alloc (.cells #[.int .i64 a, .int .i64 b] 51))) := (Below.refl _ _).alloc (Nat.le_refl _) _
  have HK : Hid (Blk (w.alloc (.cells #[.int .i64 a, .int .i64 b] 51)) w.heap.size 51 #[.int .i64 a, .int .i64 b]) := Blk.made _ _ _
  go_enter Tryz.func160, Tryz.ntmps160
  go_wp2
  go_loopw [8] (fun i wr => ∃ k : Nat, k ≤ n ∧ i = .int .i64 k ∧ Hid (∀ j, j < k → l.getD j (0, 0) ≠ (a, b)) ∧ Below w.heap.size w wr ∧ Blk wr w.heap.size 51 #[.int .i64 a, .int .i64 b]) (fun i _ => n - (intOf i).toNat)
  case atStart => exact ⟨0, Nat.zero_le _, rfl, (fun j hj => absurd hj (by omega)), HB.out, HK.out⟩
  case round =>
    obtain ⟨k, hk, rfl, HA, hbel, hblk⟩ := hrel
    by_cases hlt : k < n
    · obtain ⟨b1, off, rfl, hb1, hc⟩ := hl.2 (by omega)
      obtain ⟨x1, x2⟩ := hc k hlt
      obtain ⟨t, ht⟩ : ∃ t, l.getD k (0, 0) = t := ⟨_, rfl⟩
      rw [ht] at x1 x2
      obtain ⟨p, q⟩ := t
      have HT := Lib.hid ht
      have k1 := (hbel.cell (p := ⟨b1, off + k * 2, none⟩) (by show b1 < _; omega)).trans x1
      have k2 := (hbel.cell (p := ⟨b1, off + k * 2 + 1, none⟩) (by show b1 < _; omega)).trans x2
      have k3 : wr.cell? ⟨w.heap.size, 0, none⟩ = some (.int .i64 a) := hblk.cell 0
      have k4 : wr.cell? ⟨w.heap.size, 1, none⟩ = some (.int .i64 b) := hblk.cell 1
      have HD := Lib.hid hbel.drew
      have HKD : Hid (Blk wr.drew w.heap.size 51 #[.int .i64 a, .int .i64 b]) := hblk
      have HL := Lib.hid hl.1
      clear x1 x2 hc ht hl hblk
      by_cases heq : (p, q) = (a, b)
      · injection heq with e1 e2
        subst e1; subst e2
        have HM : Hid ((p, q) ∈ l) := mem_getD (by rw [HL.out]; exact hlt) HT.out
        go_wp2_with fail
        refine region_tail 5 (by kernel_rfl) (by kernel_rfl) ?_
        simp only [List.take_succ_cons, List.take_zero, List.drop_succ_cons, List.drop_zero]
        repeat still_step
        refine wpStill_nil ?_
        go_wp2
        go_ret
        exact ⟨k, rfl, HD.out, fun _ => by omega, fun h => absurd HM.out h, by omega, by omega⟩
      · have HA2 : Hid (∀ j, j < k + 1 → l.getD j (0, 0) ≠ (a, b)) := by
          intro j hj
          by_cases e : j = k
          · subst e; rw [HT.out]; exact heq
          · exact HA.out j (by omega)
        by_cases e1 : a = p
        · subst e1
          have e2 : (b == q) = false := by
            rw [beq_eq_false_iff_ne]
            intro h
            apply heq
            rw [h]
          clear heq
          go_wp2_with fail
          refine region_tail 5 (by kernel_rfl) (by kernel_rfl) ?_
          simp only [List.take_succ_cons, List.take_zero, List.drop_succ_cons, List.drop_zero]
          repeat still_step
          refine wpStill_nil ?_
          go_wp2
          go_roundw
          case rel => exact ⟨k + 1, by omega, by go_num, HA2.out, HD.out, HKD.out⟩
          case measure => simp [intOf]; omega
        · have e2 : (a == p) = false := by simpa using e1
          clear heq e1
          go_wp2_with fail
          refine region_tail 5 (by kernel_rfl) (by kernel_rfl) ?_
          simp only [List.take_succ_cons, List.take_zero, List.drop_succ_cons, List.drop_zero]
          repeat still_step
          refine wpStill_nil ?_
          go_wp2
          go_roundw
          case rel => exact ⟨k + 1, by omega, by go_num, HA2.out, HD.out, HKD.out⟩
          case measure => simp [intOf]; omega
    · obtain rfl : k = n := by omega
      have HM : Hid ((a, b) ∉ l) := not_mem_of (by rw [hl.1]; exact HA.out)
      clear hl
      go_wp2
      go_ret
      exact ⟨-1, rfl, hbel, fun h => absurd h HM.out, fun _ => rfl, by omega, by omega⟩

set_option maxHeartbeats 800000 in
theorem contains_any (w : World) (B : Nat) (A : Option Addr) (n c : Nat) (l : List (Int × Int)) (a b : Int) (hB : B ≤ w.heap.size) (hl : TokR w B A n l) (hn : n ≤ 1048576) :
    Calls Tryz.prog 147 #[.slice A n c, .agg #[.int .i64 a, .int .i64 b]] w fun e w' => e = .returned (.bool (decide ((a, b) ∈ l))) ∧ Below w.heap.size w w' := by
  have hb1 : Below w.heap.size w (w.alloc (.cells #[.int .i64 a, .int .i64 b] 51)) := (Below.refl _ _).alloc (Nat.le_refl _) _
  have HT := Lib.hid (hl.below (hb1.mono hB))
  have HB := Lib.hid hb1
  clear hb1
  go_enter Tryz.func147, Tryz.ntmps147
  go_wp2_with fail
  refine (index_any _ B A n c l a b (by simp; omega) HT.out hn).mono ?_
  rintro e w1 ⟨r, rfl, hb2, hr1, hr2, hr3, hr4⟩
  have HB2 := Lib.hid (HB.out.trans (hb2.mono (by simp)))
  by_cases hm : (a, b) ∈ l
  · have hr := hr1 hm
    have HD := Lib.hid (decide_eq_true hm)
    clear hr1 hr2 hm hb2
    go_wp2
    go_ret
    exact ⟨by rw [HD.out]; rfl, HB2.out⟩
  · have hr := hr2 hm
    subst hr
    have HD := Lib.hid (decide_eq_false hm)
    clear hr1 hr2 hm hb2 hr3 hr4
    go_wp2
    go_ret
    exact ⟨by rw [HD.out]; rfl, HB2.out⟩
end Go.Proofs.YtgebjnoicgmdoaaGreatDoor

namespace Go.Proofs.YtgebjnoicgmdoaaGreatDoor
open Go.RowKit

/-- the places of the first atoms of a pile's lists, bottom first -/
def starts : List (List (Int × Int)) → List Int
  | [] => []
  | _ :: s => starts s ++ [((s.flatten.length : Nat) : Int)]
theorem starts_len (st : List (List (Int × Int))) : (starts st).length = st.length := by
  induction st with
  | nil => rfl
  | cons a s ih => simp [starts, ih]
/-- the atoms of a pile, bottom first -/
def pileAt (st : List (List (Int × Int))) : List (Int × Int) := st.reverse.flatten
theorem pileAt_cons (a : List (Int × Int)) (s : List (List (Int × Int))) : pileAt (a :: s) = pileAt s ++ a := by simp [pileAt]
theorem pileAt_len (st : List (List (Int × Int))) : (pileAt st).length = st.flatten.length := by
  induction st with
  | nil => rfl
  | cons a s ih => rw [pileAt_cons, List.length_append, ih, List.flatten_cons, List.length_append]; omega
theorem starts_cons (a : List (Int × Int)) (s : List (List (Int × Int))) : starts (a :: s) = starts s ++ [((pileAt s).length : Int)] := by rw [pileAt_len]; rfl
theorem pileAt_max (a b : List (Int × Int)) (s : List (List (Int × Int))) : pileAt ((a ++ b) :: s) = pileAt (b :: a :: s) := by rw [pileAt_cons, pileAt_cons, pileAt_cons, List.append_assoc]

theorem pstep_ok {t : Int × Int} {st st' : List (List (Int × Int))} (h : Nm.pstep t st = some st') : Lv.tkOk t = true := by
  unfold Nm.pstep at h
  split at h
  · assumption
  · cases h
theorem pstep_zero {y : Int} {st st' : List (List (Int × Int))} (h : Nm.pstep (0, y) st = some st') : st' = [(-1, 0)] :: st := by
  have hk := pstep_ok h
  simp only [Nm.pstep, hk, if_true] at h
  injection h with h
  exact h.symm
theorem pstep_par {y : Int} {st st' : List (List (Int × Int))} (h : Nm.pstep (4, y) st = some st') : st' = [(y, 0)] :: st := by
  have hk := pstep_ok h
  simp [Nm.pstep, hk] at h
  exact h.symm
theorem pstep_succ {y : Int} {st st' : List (List (Int × Int))} (h : Nm.pstep (1, y) st = some st') : ∃ a s, st = a :: s ∧ st' = Nm.up 1 a :: s := by
  have hk := pstep_ok h
  rcases st with _ | ⟨a, s⟩
  · simp [Nm.pstep, hk] at h
  · simp [Nm.pstep, hk] at h
    exact ⟨a, s, rfl, h.symm⟩
theorem pstep_max {y : Int} {st st' : List (List (Int × Int))} (h : Nm.pstep (2, y) st = some st') : ∃ a b s, st = b :: a :: s ∧ st' = (a ++ b) :: s := by
  have hk := pstep_ok h
  rcases st with _ | ⟨b, _ | ⟨a, s⟩⟩
  · simp [Nm.pstep, hk] at h
  · simp [Nm.pstep, hk] at h
  · simp [Nm.pstep, hk] at h
    exact ⟨a, b, s, rfl, h.symm⟩

theorem own_form {w : World} {base : Nat} {e : TypeId} {size n : Nat} {v : Value} {xs : List Value} (h : w.ownsRow base e size v n xs) (hn : 0 < n) : ∃ g c, v = .slice (some ⟨g, 0, none⟩) n c := by
  rcases h.2 with ⟨_, h0⟩ | ⟨g, c, _, hv, _⟩
  · omega
  · exact ⟨g, c, hv⟩
theorem own_new {w : World} {base : Nat} {e : TypeId} {size n : Nat} {v : Value} {xs : List Value} (h : w.ownsRow base e size v n xs) : some w.heap.size ≠ v.ownBlock :=
  fun he => absurd (h.lt _ he.symm).2 (Nat.lt_irrefl _)
/-- rows of two kinds lie apart -/
theorem own_apartK {w : World} {base base' : Nat} {e e' : TypeId} {size size' n n' : Nat} {v u : Value} {xs ys : List Value} (h : w.ownsRow base e size v n xs) (h' : w.ownsRow base' e' size' u n' ys) (hne : e ≠ e') : v.ownBlock = none ∨ v.ownBlock ≠ u.ownBlock := by
  cases hv : v.ownBlock with
  | none => exact .inl rfl
  | some g =>
    refine .inr (fun hu => ?_)
    obtain ⟨cs, hb⟩ := own_blk h g hv
    obtain ⟨cs', hb'⟩ := own_blk h' g hu.symm
    exact (hb.apart hb' hne) rfl
theorem own_take {w : World} {base g n m c : Nat} {e : TypeId} {xs : List Value} (h : w.ownsRow base e 1 (.slice (some ⟨g, 0, none⟩) n c) n xs) (hm : m ≤ n) : w.ownsRow base e 1 (.slice (some ⟨g, 0, none⟩) m c) m (xs.take m) := by
  have hl := h.1
  refine ⟨by rw [List.length_take]; omega, ?_⟩
  rcases h.2 with ⟨h0, _⟩ | ⟨g', cap, cur, hv, hb, hh, hnc, hc, hs, ht⟩
  · cases h0
  · injection hv with hv1 hv2 hv3
    injection hv1 with hv1
    injection hv1 with hv1
    subst hv1; subst hv3
    refine .inr ⟨g, c, cur, rfl, hb, hh, by omega, hc, hs, ?_⟩
    rw [← ht, List.take_take]
    congr 1
    omega
theorem put_grown (w : World) (g i : Nat) (u : Value) : w.grownBy (w.setCell ⟨g, i, none⟩ u) (some g) :=
  ⟨rfl, rfl, rfl, by rw [World.size_setCell]; exact Nat.le_refl _, fun k _ hn => Below.heap_setCell w ⟨g, i, none⟩ u k (fun e => hn (by rw [e]))⟩
theorem news_one (w : World) (o : Obj) (v : Value) (t : TypeId) : ∀ j u, [v][j]? = some u → ((w.alloc o).alloc (.cells #[v] t)).cell? ((⟨w.heap.size + 1, 0, none⟩ : Addr).add j) = some u := by
  have h := cell_one_new (w.alloc o) v t
  rw [World.size_alloc] at h
  exact h
theorem leafs_of {l : List (Int × Int)} {a : List (Int × Int)} (h : Nm.prun l [] = some [a]) : Nm.leafs l = a := by rw [Nm.leafs, h]; rfl

set_option maxRecDepth 100000 in
set_option maxHeartbeats 6400000 in
theorem leafAtoms_any (w : World) (B : Nat) (A : Option Addr) (n c : Nat) (l : List (Int × Int)) (hB : B ≤ w.heap.size) (hl : TokR w B A n l) (hn : n ≤ 24) (hok : Lv.levelOk l = true) (h3 : ∀ t ∈ l, t.1 ≠ 3) :
    Calls Tryz.prog 149 #[.slice A n c] w fun e w' => ∃ A' c', e = .returned (.slice A' (Nm.leafs l).length c') ∧ OwnA w' w.heap.size A' (Nm.leafs l).length c' (Nm.leafs l) ∧ Below w.heap.size w w' := by
  obtain ⟨i0, hi, hz0, hz1, hz2⟩ := info_parts info_atom
  obtain ⟨j0, ji, jz0, jz1, jz2⟩ := info_parts info_int
  have HOK := Lib.hid hok
  have H3 := Lib.hid h3
  clear hok h3
  go_enter Tryz.func149, Tryz.ntmps149
  go_wp2
  go_loopw [3, 4, 10] (fun v3 v4 i wr => ∃ (k : Nat) (st : List (List (Int × Int))) (A3 : Option Addr) (N c3 : Nat) (A4 : Option Addr) (D c4 : Nat), k ≤ n ∧ i = .int .i64 k ∧ Hid (Nm.prun (l.take k) [] = some st) ∧ v3 = .slice A3 N c3 ∧ (pileAt st).length = N ∧ OwnA wr w.heap.size A3 N c3 (pileAt st) ∧ v4 = .slice A4 D c4 ∧ st.length = D ∧ OwnI wr w.heap.size A4 D c4 (starts st) ∧ Below w.heap.size w wr) (fun _ _ i _ => n - (intOf i).toNat)
  case atStart => exact ⟨0, [], none, 0, 0, none, 0, 0, Nat.zero_le _, rfl, Lib.hid rfl, rfl, rfl, World.ownsRow_nil _ _ _ _, rfl, rfl, World.ownsRow_nil _ _ _ _, Below.refl _ _⟩
  case round =>
    obtain ⟨k, st, A3, N, c3, A4, D, c4, hk, rfl, HR, rfl, hN, ho3, rfl, hD, ho4, hbel⟩ := hrel
    have hszr := hbel.size
    by_cases hlt : k < n
    · obtain ⟨b, off, rfl, hb, hc⟩ := hl.2 (by omega)
      obtain ⟨x1, x2⟩ := hc k hlt
      have hkl : k < l.length := by rw [hl.1]; exact hlt
      obtain ⟨st', hst'⟩ := Nm.prun_some HOK.out H3.out (k + 1)
      have HR' := Lib.hid hst'
      have hps : Nm.pstep (l.getD k (0, 0)) st = some st' := by
        have h := Nm.prun_take_succ l k hkl []
        rw [hst', HR.out] at h
        exact h.symm
      have hfl := Nm.flat_run HR.out
      have hdl := Nm.len_run HR.out
      have hfine := Nm.fine_run HR.out
      rw [List.length_take] at hfl hdl hfine
      have hN24 : N ≤ 24 := by rw [← hN, pileAt_len]; omega
      have hD24 : D ≤ 24 := by omega
      obtain ⟨t, ht⟩ : ∃ t, l.getD k (0, 0) = t := ⟨_, rfl⟩
      have h3t : t.1 ≠ 3 := by
        rw [← ht]
        refine H3.out _ ?_
        rw [List.getD_eq_getElem?_getD, List.getElem?_eq_getElem hkl]
        exact List.getElem_mem hkl
      rw [ht] at x1 x2 hps
      have htk := pstep_ok hps
      obtain ⟨op, y⟩ := t
      have k1 := (hbel.cell (p := ⟨b, off + k * 2, none⟩) (by show b < _; omega)).trans x1
      have k2 := (hbel.cell (p := ⟨b, off + k * 2 + 1, none⟩) (by show b < _; omega)).trans x2
      have hki : (k : Int) < (n : Int) := by omega
      have HL := Lib.hid hl
      have HBL := Lib.hid hbel
      have hapt := own_apartK ho3 ho4 (by decide)
      have hapt' := own_apartK ho4 ho3 (by decide)
      clear x1 x2 hc ht hst' hl hfl hdl hkl hbel
      rcases Lv.tk_cases htk with e | e | e | e | e
      · obtain rfl : op = 0 := e
        obtain rfl := pstep_zero hps
        have ho4a := (ho4.alloc (.cells #[.int .i64 0, .int .i64 y] 51)).alloc (.cells #[.int .i64 N] 3)
        have ho3a := (ho3.alloc (.cells #[.int .i64 0, .int .i64 y] 51)).alloc (.cells #[.int .i64 N] 3)
        have hba := (HBL.out.alloc hszr (.cells #[.int .i64 0, .int .i64 y] 51)).alloc (by simp; omega) (.cells #[.int .i64 N] 3)
        clear hps htk h3t ho3 ho4 hfine
        go_wp2_with (at_builtin; first
          | (refine wpList_append_own _ rfl (.tmp 18) (.tmp 21) 29 rfl w.heap.size 3 j0 (.int .i64 0) 1 8 Tryz.underlying29 ji jz0 jz1 jz2 rfl (by decide) (.slice A4 D c4) D ((starts st).map (Value.int .i64)) rfl ho4a ⟨wr.heap.size + 1, 0, none⟩ 1 1 [.int .i64 N] rfl rfl (news_one _ _ _ _) (fun u hu => by simp at hu; subst hu; rfl) (by unfold maxLen; omega) (by omega) (by simp; omega) ?_
             intro v' w3 hown' hgrow hnil
             obtain ⟨g4, d4, rfl⟩ := own_form hown' (by omega)
             have ho3b := ho3a.kept hgrow hapt
             have hbb : Below w.heap.size w w3 := hba.grown hgrow (by simp; omega) (fun k h => (ho4a.lt k h).1)
             have ho4b := hown'.alloc (.cells #[.int .i64 (-1), .int .i64 0] 92)
             have ho3c := ho3b.alloc (.cells #[.int .i64 (-1), .int .i64 0] 92)
             have hap2 := own_apartK ho4b ho3c (by decide)
             have hz3 := hbb.size
             clear hown' hgrow hnil ho4a ho3a ho3b hba)
          | (refine wpList_append_own _ rfl (.tmp 23) (.tmp 25) 138 rfl w.heap.size 92 i0 (.agg #[.int .i64 0, .int .i64 0]) 2 16 Tryz.underlying138 hi hz0 hz1 hz2 rfl (by decide) (.slice A3 N c3) N (tokCells (pileAt st)) rfl ho3c ⟨w3.heap.size, 0, none⟩ 1 1 [.int .i64 (-1), .int .i64 0] rfl rfl (World.news_of_block (cs := #[.int .i64 (-1), .int .i64 0]) (t := 92) (fr := (0, 0)) (heap_alloc_new w3 _)) (by intro v hv; simp at hv; rcases hv with rfl | rfl <;> rfl) (by unfold maxLen; omega) (by omega) (by simp; omega) ?_
             intro v' w4 hown' hgrow hnil
             obtain ⟨g3, d3, rfl⟩ := own_form hown' (by omega)
             have HW4 : Hid (OwnI w4 w.heap.size (some ⟨g4, 0, none⟩) (D + 1) d4 (starts ([(-1, 0)] :: st))) := by
               show OwnI _ _ _ _ _ _
               unfold OwnI
               rw [starts_cons, List.map_append, hN]
               exact ho4b.kept hgrow hap2
             have HW3 : Hid (OwnA w4 w.heap.size (some ⟨g3, 0, none⟩) (N + 1) d3 (pileAt ([(-1, 0)] :: st))) := by
               show OwnA _ _ _ _ _ _
               unfold OwnA
               rw [pileAt_cons, tokCells_append]
               exact hown'
             have HB4 : Hid (Below w.heap.size w w4) := (hbb.alloc hz3 _).grown hgrow (by simp; omega) (fun k h => (ho3c.lt k h).1)
             clear hown' hgrow hnil ho4b ho3c hbb))
        go_wp2
        go_roundw
        case rel => exact ⟨k + 1, [(-1, 0)] :: st, some ⟨g3, 0, none⟩, N + 1, d3, some ⟨g4, 0, none⟩, D + 1, d4, by omega, by go_num, HR', rfl, by rw [pileAt_cons, List.length_append, hN]; rfl, HW3.out, rfl, by rw [List.length_cons, hD], HW4.out, HB4.out⟩
        case measure => simp [intOf]; omega
      · obtain rfl : op = 1 := e
        obtain ⟨a, s, rfl, rfl⟩ := pstep_succ hps
        obtain ⟨d, rfl⟩ : ∃ d, D = d + 1 := ⟨s.length, by rw [← hD]; rfl⟩
        obtain ⟨g4, c4', hA4⟩ := own_form ho4 (by omega)
        injection hA4 with hA4 _ hc4
        subst hA4
        clear hc4
        have hpl : (pileAt s).length + a.length = N := by rw [← hN, pileAt_cons, List.length_append]
        obtain ⟨P, hP⟩ : ∃ P, (pileAt s).length = P := ⟨_, rfl⟩
        obtain ⟨Q, hQ⟩ : ∃ Q, a.length = Q := ⟨_, rfl⟩
        have hQ0 : 0 < Q := by rw [← hQ]; exact List.length_pos_iff.2 (hfine a (by simp)).1
        rw [hP, hQ] at hpl
        subst hpl
        obtain ⟨g3, c3', hA3⟩ := own_form ho3 (by omega)
        injection hA3 with hA3 _ hc3
        subst hA3
        clear hc3
        have ho4a := ho4.alloc (.cells #[.int .i64 1, .int .i64 y] 51)
        have ho3a := ho3.alloc (.cells #[.int .i64 1, .int .i64 y] 51)
        have hls := starts_len s
        have hds : s.length = d := by simpa using hD
        have k4 := ho4a.cells (g := g4) rfl d (.int .i64 P) (by rw [starts_cons, List.map_append, List.getElem?_append_right (by rw [List.length_map, hls, hds]; exact Nat.le_refl _), List.length_map, hls, hds, hP]; simp)
        rw [own_adds] at k4
        have hg3 : Hid (w.heap.size ≤ g3) := (ho3.lt g3 rfl).1
        have hne34 : Hid (g3 ≠ g4) := by
          rcases hapt with h | h
          · cases h
          · exact fun e => h (by rw [e]; rfl)
        have HA := Lib.hid ho3a
        have HI := Lib.hid ho4a
        have HBa := Lib.hid (HBL.out.alloc hszr (.cells #[.int .i64 1, .int .i64 y] 51))
        have HPC : Hid (pileAt (a :: s) = pileAt s ++ a) := pileAt_cons a s
        have HSM : Hid (∀ j, j < Q → 0 ≤ (a.getD j (0, 0)).2 ∧ (a.getD j (0, 0)).2 ≤ 24) := by
          intro j hj
          have hmem : a.getD j (0, 0) ∈ a := by
            rw [List.getD_eq_getElem?_getD, List.getElem?_eq_getElem (by omega)]
            exact List.getElem_mem _
          have := (hfine a (by simp)).2 _ hmem
          omega
        have HP := Lib.hid hP
        have HQ := Lib.hid hQ
        have HD := Lib.hid hds
        clear hps htk h3t ho3 ho4 ho3a ho4a hfine hls hds hP hQ hD hN hapt hapt'
        go_wp2
        go_loopw [7] (fun i wx => ∃ (j : Nat) (m : List (Int × Int)), j ≤ Q ∧ i = .int .i64 ((P + j : Nat) : Int) ∧ Hid (Half a m 1 j) ∧ OwnA wx w.heap.size (some ⟨g3, 0, none⟩) (P + Q) c3 (pileAt s ++ m) ∧ OwnI wx w.heap.size (some ⟨g4, 0, none⟩) (d + 1) c4 (starts (a :: s)) ∧ Below w.heap.size w wx) (fun i _ => P + Q - (intOf i).toNat)
        case atStart => exact ⟨0, a, Nat.zero_le _, rfl, half_start a 1, by rw [← HPC.out]; exact HA.out, HI.out, HBa.out⟩
        case round =>
          obtain ⟨j, m, hj, rfl, HH, hown, howi, hbx⟩ := hrel
          by_cases hjq : j < Q
          · have hja : j < a.length := by rw [HQ.out]; exact hjq
            have hat := half_at HH.out hja
            have hsm := HSM.out j hjq
            obtain ⟨t, ht⟩ : ∃ t, a.getD j (0, 0) = t := ⟨_, rfl⟩
            rw [ht] at hat hsm
            obtain ⟨p, z⟩ := t
            simp only at hsm
            obtain ⟨z0, z1⟩ := hsm
            have HN := Lib.hid (half_step HH.out hja ht)
            have hat2 : (pileAt s ++ m)[P + j]? = some (p, z) := by rw [List.getElem?_append_right (by rw [HP.out]; omega), HP.out, Nat.add_sub_cancel_left]; exact hat
            have hgd : (pileAt s ++ m).getD (P + j) (0, 0) = (p, z) := by rw [List.getD_eq_getElem?_getD, hat2]; rfl
            have hcl := tokCells_at (pileAt s ++ m) (P + j) (by rw [List.length_append, HP.out, HH.out.1, HQ.out]; omega)
            rw [hgd] at hcl
            have k5 := hown.cells (g := g3) rfl ((P + j) * 2 + 1) _ hcl.2
            rw [own_adds] at k5
            have hput := own_put hown ((P + j) * 2 + 1) (.int .i64 (z + 1))
            have hse : (pileAt s ++ m).set (P + j) (p, z + 1) = pileAt s ++ m.set j (p, z + 1) := by rw [List.set_append_right _ _ (by rw [HP.out]; omega), HP.out, Nat.add_sub_cancel_left]
            rw [← tokCells_set (pileAt s ++ m) (P + j) p z (z + 1) hat2, hse] at hput
            have HPu := Lib.hid hput
            have HIu := Lib.hid (howi.kept (put_grown _ g3 ((P + j) * 2 + 1) (.int .i64 (z + 1))) (.inr (fun h => hne34.out (by injection h with h; exact h.symm))))
            have HBu := Lib.hid (hbx.setCell (p := ⟨g3, (P + j) * 2 + 1, none⟩) hg3.out (.int .i64 (z + 1)))
            obtain ⟨cs, hblk⟩ := own_blk hown g3 rfl
            have f1 := hblk.thawed ((P + j) * 2 + 1)
            have hlt5 : ((P + j : Nat) : Int) < ((P + Q : Nat) : Int) := by omega
            have hlt6 : P + j < P + Q := by omega
            clear hput hat ht hcl hgd hown hblk howi hbx hat2 hse
            go_wp2
            go_roundw
            case rel => exact ⟨j + 1, m.set j (p, z + 1), by omega, by go_num, HN, HPu.out, HIu.out, HBu.out⟩
            case measure => simp [intOf]; omega
          · obtain rfl : j = Q := by omega
            have hup : m = Nm.up 1 a := half_end (by have h := HH.out; rw [HQ.out]; exact h)
            subst hup
            have HA2 := Lib.hid hown
            have HI2 := Lib.hid howi
            have HUL : Hid ((Nm.up 1 a).length = j) := by show _ = _; rw [up_len]; exact HQ.out
            clear hown howi
            go_wp2
            go_roundw
            case rel => exact ⟨k + 1, Nm.up 1 a :: s, some ⟨g3, 0, none⟩, P + j, c3, some ⟨g4, 0, none⟩, d + 1, c4, by omega, by go_num, HR', rfl, by rw [pileAt_cons, List.length_append, HP.out, HUL.out], by rw [pileAt_cons]; exact HA2.out, rfl, by rw [List.length_cons, HD.out], HI2.out, hbx⟩
            case measure => simp [intOf]; omega
      · obtain rfl : op = 2 := e
        obtain ⟨a, b2, s, rfl, rfl⟩ := pstep_max hps
        obtain ⟨d, rfl⟩ : ∃ d, D = d + 1 := ⟨s.length + 1, by rw [← hD]; rfl⟩
        obtain ⟨g4, c4', hA4⟩ := own_form ho4 (by omega)
        injection hA4 with hA4 _ hc4
        subst hA4
        clear hc4
        have hds : (a :: s).length = d := by simpa using hD
        have hcap : d ≤ c4 := by
          rcases ho4.2 with ⟨h0, _⟩ | ⟨g', cap', cur, hv, hb, hgg, q1, q2, q3, q4⟩
          · cases h0
          · injection hv with e1 e2 e3
            omega
        have hst : (starts (b2 :: a :: s)).take d = starts ((a ++ b2) :: s) := by
          rw [starts_cons, List.take_append_of_le_length (by rw [starts_len, hds]; exact Nat.le_refl _), List.take_of_length_le (by rw [starts_len, hds]; exact Nat.le_refl _)]
          rfl
        have hot := own_take (ho4.alloc (.cells #[.int .i64 2, .int .i64 y] 51)) (show d ≤ d + 1 by omega)
        rw [← List.map_take, hst] at hot
        have HT := Lib.hid hot
        have HA := Lib.hid (ho3.alloc (.cells #[.int .i64 2, .int .i64 y] 51))
        have HBa := Lib.hid (HBL.out.alloc hszr (.cells #[.int .i64 2, .int .i64 y] 51))
        clear hps htk h3t ho3 ho4 hfine hst hot
        go_wp2
        go_roundw
        case rel => exact ⟨k + 1, (a ++ b2) :: s, A3, N, c3, some ⟨g4, 0, none⟩, d, c4, by omega, by go_num, HR', rfl, by rw [pileAt_max]; exact hN, by rw [pileAt_max]; exact HA.out, rfl, by rw [← hds]; rfl, HT.out, HBa.out⟩
        case measure => simp [intOf]; omega
      · exact absurd e h3t
      · obtain rfl : op = 4 := e
        obtain rfl := pstep_par hps
        have ho4a := (ho4.alloc (.cells #[.int .i64 4, .int .i64 y] 51)).alloc (.cells #[.int .i64 N] 3)
        have ho3a := (ho3.alloc (.cells #[.int .i64 4, .int .i64 y] 51)).alloc (.cells #[.int .i64 N] 3)
        have hba := (HBL.out.alloc hszr (.cells #[.int .i64 4, .int .i64 y] 51)).alloc (by simp; omega) (.cells #[.int .i64 N] 3)
        have hnew := own_new ho4
        clear hps htk h3t ho3 ho4 hfine
        go_wp2_with (at_builtin; first
          | (refine wpList_append_own _ rfl (.tmp 29) (.tmp 32) 29 rfl w.heap.size 3 j0 (.int .i64 0) 1 8 Tryz.underlying29 ji jz0 jz1 jz2 rfl (by decide) (.slice A4 D c4) D ((starts st).map (Value.int .i64)) rfl ho4a ⟨wr.heap.size + 1, 0, none⟩ 1 1 [.int .i64 N] rfl rfl (news_one _ _ _ _) (fun u hu => by simp at hu; subst hu; rfl) (by unfold maxLen; omega) (by omega) (by simp; omega) ?_
             intro v' w3 hown' hgrow hnil
             obtain ⟨g4, d4, rfl⟩ := own_form hown' (by omega)
             have ho3b := ho3a.kept hgrow hapt
             have hbb : Below w.heap.size w w3 := hba.grown hgrow (by simp; omega) (fun k h => (ho4a.lt k h).1)
             have ho4b := hown'.alloc (.cells #[.int .i64 y, .int .i64 0] 92)
             have ho3c := ho3b.alloc (.cells #[.int .i64 y, .int .i64 0] 92)
             have hap2 := own_apartK ho4b ho3c (by decide)
             have hz3 := hbb.size
             have ky := ((((Blk.made wr 51 #[.int .i64 4, .int .i64 y]).alloc (.cells #[.int .i64 N] 3)).grown hgrow hnew).cell 1)
             have ky' : w3.cell? ⟨wr.heap.size, 1, none⟩ = some (.int .i64 y) := ky
             clear ky
             clear hown' hgrow hnil ho4a ho3a ho3b hba)
          | (refine wpList_append_own _ rfl (.tmp 34) (.tmp 38) 138 rfl w.heap.size 92 i0 (.agg #[.int .i64 0, .int .i64 0]) 2 16 Tryz.underlying138 hi hz0 hz1 hz2 rfl (by decide) (.slice A3 N c3) N (tokCells (pileAt st)) rfl ho3c ⟨w3.heap.size, 0, none⟩ 1 1 [.int .i64 y, .int .i64 0] rfl rfl (World.news_of_block (cs := #[.int .i64 y, .int .i64 0]) (t := 92) (fr := (0, 0)) (heap_alloc_new w3 _)) (by intro v hv; simp at hv; rcases hv with rfl | rfl <;> rfl) (by unfold maxLen; omega) (by omega) (by simp; omega) ?_
             intro v' w4 hown' hgrow hnil
             obtain ⟨g3, d3, rfl⟩ := own_form hown' (by omega)
             have HW4 : Hid (OwnI w4 w.heap.size (some ⟨g4, 0, none⟩) (D + 1) d4 (starts ([(y, 0)] :: st))) := by
               show OwnI _ _ _ _ _ _
               unfold OwnI
               rw [starts_cons, List.map_append, hN]
               exact ho4b.kept hgrow hap2
             have HW3 : Hid (OwnA w4 w.heap.size (some ⟨g3, 0, none⟩) (N + 1) d3 (pileAt ([(y, 0)] :: st))) := by
               show OwnA _ _ _ _ _ _
               unfold OwnA
               rw [pileAt_cons, tokCells_append]
               exact hown'
             have HB4 : Hid (Below w.heap.size w w4) := (hbb.alloc hz3 _).grown hgrow (by simp; omega) (fun k h => (ho3c.lt k h).1)
             clear hown' hgrow hnil ho4b ho3c hbb))
        go_wp2
        go_roundw
        case rel => exact ⟨k + 1, [(y, 0)] :: st, some ⟨g3, 0, none⟩, N + 1, d3, some ⟨g4, 0, none⟩, D + 1, d4, by omega, by go_num, HR', rfl, by rw [pileAt_cons, List.length_append, hN]; rfl, HW3.out, rfl, by rw [List.length_cons, hD], HW4.out, HB4.out⟩
        case measure => simp [intOf]; omega
    · obtain rfl : k = n := by omega
      obtain ⟨a, ha⟩ := Nm.prun_one HOK.out H3.out
      have hst : st = [a] := by
        have h := HR.out
        rw [List.take_of_length_le (by rw [hl.1]; exact Nat.le_refl _), ha] at h
        injection h with h
        exact h.symm
      subst hst
      have HLF := Lib.hid (leafs_of ha)
      have hpa : pileAt [a] = a := by simp [pileAt]
      rw [hpa] at hN ho3
      have HA := Lib.hid ho3
      have HNN := Lib.hid hN
      clear ha hpa ho3 ho4 hN
      go_wp2
      go_ret
      exact ⟨A3, c3, by rw [HLF.out, HNN.out]; rfl, by rw [HLF.out, HNN.out]; exact HA.out, hbel⟩
end Go.Proofs.YtgebjnoicgmdoaaGreatDoor
