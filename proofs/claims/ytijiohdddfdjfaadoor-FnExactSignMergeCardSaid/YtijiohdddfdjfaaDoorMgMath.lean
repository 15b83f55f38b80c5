/- The model's cursor: what it hands out. -/
/- The model's cursor: raw numbers and leaves. -/
/- sync.Once's Do over the table of residuals. -/
/- The table of residuals: one look at it. -/
/- Two rows of atoms are compared: slices.Equal, and the model's own look. A parameter is looked for. -/
/- Plain facts: when the residuals of a level do not tell a parameter's sign. -/
import Derived.Test.YtijiohdddfdjfaaDoorJoin
import Derived.Maps.Range
import Derived.Test.YtijiohdddfdjfaaDoorOnce2
import Derived.Test.YtijiohdddfdjfaaDoorAtLaws

namespace Go.Proofs.YtijiohdddfdjfaaDoor
open Go.RowKit

/-- a slice of bytes below block B -/
def BytR (w : World) (B : Nat) (A : Option Addr) (n : Nat) : Prop :=
  0 < n → ∃ b off, A = some ⟨b, off, none⟩ ∧ b < B ∧ ∀ k, k < n → ∃ x : Nat, x < 256 ∧ w.cell? ⟨b, off + k, none⟩ = some (.int .u8 x)
theorem BytR.below {w w' : World} {B : Nat} {A : Option Addr} {n : Nat} (h : BytR w B A n) (hb : Below B w w') : BytR w' B A n := fun h0 => by
  obtain ⟨b, off, rfl, hB, hc⟩ := h h0
  refine ⟨b, off, rfl, hB, fun k hk => ?_⟩
  obtain ⟨x, hx, c⟩ := hc k hk
  exact ⟨x, hx, (hb.cell (p := ⟨b, off + k, none⟩) hB).trans c⟩

/-- the cursor at block bc over those bytes, its place at most K -/
def Cur (w : World) (bc : Nat) (A : Option Addr) (n c K : Nat) : Prop :=
  BytR w bc A n ∧ ∃ p s : Nat, Blk w bc 102 #[.slice A n c, .int .i64 p, .int .i64 s] ∧ p ≤ K ∧ s ≤ 70000
theorem Cur.lt {w : World} {bc : Nat} {A : Option Addr} {n c K : Nat} (h : Cur w bc A n c K) : bc < w.heap.size := by obtain ⟨_, p, s, hb, _⟩ := h; exact hb.lt
theorem Cur.more {w : World} {bc : Nat} {A : Option Addr} {n c K K' : Nat} (h : Cur w bc A n c K) (hK : K ≤ K') : Cur w bc A n c K' := by
  obtain ⟨h1, p, s, hb, hp, hs⟩ := h
  exact ⟨h1, p, s, hb, by omega, hs⟩
/-- nothing but the cursor's block has turned -/
abbrev Kp (bc : Nat) (w w' : World) : Prop := w.grownBy w' (some bc)
theorem Kp.refl (bc : Nat) (w : World) : Kp bc w w := ⟨rfl, rfl, rfl, Nat.le_refl _, fun _ _ _ => rfl⟩
theorem Kp.trans {bc : Nat} {a b c : World} (h : Kp bc a b) (k : Kp bc b c) : Kp bc a c :=
  ⟨k.os.trans h.os, k.tape.trans h.tape, k.output.trans h.output, Nat.le_trans h.size k.size, fun i hi hn => (k.block i (Nat.lt_of_lt_of_le hi h.size) hn).trans (h.block i hi hn)⟩
theorem Kp.of_below {bc : Nat} {a b : World} (h : Below a.heap.size a b) : Kp bc a b := ⟨h.os, h.tape, h.output, h.size, fun i hi _ => h.block i hi⟩
theorem Kp.below {bc B : Nat} {w0 a b : World} (h0 : Below B w0 a) (h : Kp bc a b) (hB : B ≤ bc) (hz : B ≤ a.heap.size) : Below B w0 b := h0.grown h hz (fun k hk => by injection hk with hk; omega)
theorem Kp.own {bc : Nat} {a b : World} {base : Nat} {e : TypeId} {size n : Nat} {v : Value} {xs : List Value} (h : a.ownsRow base e size v n xs) (hk : Kp bc a b) (hb : bc < base) : b.ownsRow base e size v n xs :=
  h.kept hk (by
    cases hv : v.ownBlock with
    | none => exact .inl rfl
    | some g =>
      refine .inr (fun he => ?_)
      have := (h.lt g hv).1
      injection he with he
      omega)
theorem Cur.below {w w' : World} {bc : Nat} {A : Option Addr} {n c K : Nat} (h : Cur w bc A n c K) (hb : Below w.heap.size w w') : Cur w' bc A n c K := by
  have hlt := h.lt
  obtain ⟨h1, p, s, hblk, hp, hs⟩ := h
  exact ⟨h1.below (hb.mono (by omega)), p, s, hblk.below hb hlt, hp, hs⟩

theorem Kp.drew {bc : Nat} {a b : World} (h : Kp bc a b) : Kp bc a b.drew := ⟨h.os, h.tape, h.output, h.size, h.block⟩
theorem Kp.put (w : World) (bc i : Nat) (u : Value) : Kp bc w (w.setCell ⟨bc, i, none⟩ u) :=
  ⟨rfl, rfl, rfl, by rw [World.size_setCell]; exact Nat.le_refl _, fun k _ hn => Below.heap_setCell w ⟨bc, i, none⟩ u k (fun e => hn (by rw [e]))⟩
theorem cur_put {w : World} {bc : Nat} {A : Option Addr} {n c K p s : Nat} (hby : BytR w bc A n) (hblk : Blk w bc 102 #[.slice A n c, .int .i64 p, .int .i64 s]) (hp : p ≤ K) (hs : s ≤ 70000) :
    Cur (w.setCell ⟨bc, 1, none⟩ (.int .i64 ((p : Int) + 1))) bc A n c (K + 1) := by
  refine ⟨hby.below ((Below.refl _ _).setCell (p := ⟨bc, 1, none⟩) (Nat.le_refl _) _), p + 1, s, ?_, by omega, hs⟩
  have h := hblk.put 1 (.int .i64 ((p : Int) + 1))
  exact h
theorem cur_put2 {w : World} {bc : Nat} {A : Option Addr} {n c K p s s' : Nat} (hby : BytR w bc A n) (hblk : Blk w bc 102 #[.slice A n c, .int .i64 p, .int .i64 s]) (hp : p ≤ K) (hs : s' ≤ 70000) :
    Cur ((w.setCell ⟨bc, 2, none⟩ (.int .i64 (s' : Int))).setCell ⟨bc, 1, none⟩ (.int .i64 ((p : Int) + 1))) bc A n c (K + 1) := by
  refine cur_put (s := s') (hby.below ((Below.refl _ _).setCell (p := ⟨bc, 2, none⟩) (Nat.le_refl _) _)) ?_ hp hs
  have h := hblk.put 2 (.int .i64 (s' : Int))
  exact h

set_option maxRecDepth 100000 in
set_option maxHeartbeats 2000000 in
theorem pick_any (w : World) (bc : Nat) (A : Option Addr) (n c K m : Nat) (hc : Cur w bc A n c K) (hK : K ≤ 1000000) (hm : m ≤ 1000000) (hn : n ≤ 1048576) :
    Calls Tryd.prog 73 #[.pointer (some ⟨bc, 0, none⟩), .int .i64 m] w fun e w' => ∃ r : Nat, e = .returned (.int .i64 r) ∧ (r = 0 ∨ r < m) ∧ Cur w' bc A n c (K + 1) ∧ Kp bc w w' := by
  by_cases hm2 : m < 2
  · go_enter Tryd.func73, Tryd.ntmps73
    go_wp2
    go_ret
    exact ⟨0, rfl, .inl rfl, hc.more (by omega), Kp.refl _ _⟩
  · obtain ⟨hby, p, s, hblk, hp, hs⟩ := hc
    have x0 : w.cell? ⟨bc, 0, none⟩ = some (.slice A n c) := hblk.cell 0
    have x1 : w.cell? ⟨bc, 1, none⟩ = some (.int .i64 p) := hblk.cell 1
    have x2 : w.cell? ⟨bc, 2, none⟩ = some (.int .i64 s) := hblk.cell 2
    have f1 := hblk.thawed 1
    have f2 := hblk.thawed 2
    have hlt := hblk.lt
    have hm2' : ¬ ((m : Int) < 2) := by omega
    by_cases hat : p < n
    · obtain ⟨b, off, rfl, hb, hcs⟩ := hby (by omega)
      obtain ⟨x, hx, y1⟩ := hcs p hat
      have HB := Lib.hid hblk
      have HY := Lib.hid hby
      clear hblk hcs hby
      go_enter Tryd.func73, Tryd.ntmps73
      go_wp2_with fail
      go_region
      go_wp2_with fail
      go_region
      go_wp2
      go_ret
      exact ⟨x % m, ret_int (by simp), .inr (Nat.mod_lt _ (by omega)), cur_put HY.out HB.out hp hs, (Kp.put _ _ _ _).drew.drew⟩
    · obtain ⟨s', hs'⟩ : ∃ s' : Nat, (s * 1103 + 12345) % 65521 = s' := ⟨_, rfl⟩
      have hsb : s' ≤ 65520 := by omega
      have hsi : ((s : Int) * 1103 + 12345) % 65521 = (s' : Int) := by omega
      by_cases hn0 : n = 0
      · subst hn0
        have HB := Lib.hid hblk
        have HY := Lib.hid hby
        clear hblk hby hs'
        go_enter Tryd.func73, Tryd.ntmps73
        go_wp2_with fail
        go_region
        go_wp2
        go_ret
        exact ⟨0 % m, ret_int (by simp), .inr (Nat.mod_lt _ (by omega)), cur_put2 HY.out HB.out hp (by omega), ((Kp.put _ _ _ _).trans (Kp.put _ _ _ _)).drew⟩
      · obtain ⟨b, off, rfl, hb, hcs⟩ := hby (by omega)
        have hpm : p % n < n := Nat.mod_lt _ (by omega)
        obtain ⟨x, hx, y1⟩ := hcs (p % n) hpm
        have hcast : (p : Int) % (n : Int) = ((p % n : Nat) : Int) := by simp
        generalize p % n = q at hpm y1 hcast
        have HB := Lib.hid hblk
        have HY := Lib.hid hby
        clear hblk hcs hby hs'
        go_enter Tryd.func73, Tryd.ntmps73
        go_wp2_with fail
        go_region
        go_wp2_with fail
        go_region
        go_wp2
        go_ret
        exact ⟨(s' / 7 + x) % m, ret_int (by simp), .inr (Nat.mod_lt _ (by omega)), cur_put2 HY.out HB.out hp (by omega), ((Kp.put _ _ _ _).trans (Kp.put _ _ _ _)).drew.drew⟩

set_option maxHeartbeats 800000 in
theorem once_any (w : World) (bc : Nat) (A : Option Addr) (n c K m : Nat) (hc : Cur w bc A n c K) (hK : K ≤ 1000000) (hm : m ≤ 1000000) (hn : n ≤ 1048576) :
    Calls Tryd.prog 75 #[.pointer (some ⟨bc, 0, none⟩), .int .i64 m] w fun e w' => ∃ r : Bool, e = .returned (.bool r) ∧ Cur w' bc A n c (K + 1) ∧ Kp bc w w' := by
  go_enter Tryd.func75, Tryd.ntmps75
  go_wp2_with fail
  refine (pick_any w bc A n c K m hc hK hm hn).mono ?_
  rintro e w1 ⟨r, rfl, _, hc1, hk1⟩
  go_wp2
  go_ret
  exact ⟨_, rfl, hc1, hk1⟩
end Go.Proofs.YtijiohdddfdjfaaDoor

namespace Go.Proofs.YtijiohdddfdjfaaDoor
open Go.RowKit

theorem BytR.grown {w w' : World} {B : Nat} {A : Option Addr} {n : Nat} {row : Option Nat} (h : BytR w B A n) (hg : w.grownBy w' row) (hB : B ≤ w.heap.size) (hr : ∀ k, row = some k → B ≤ k) : BytR w' B A n :=
  h.below ((Below.refl B w).grown hg hB hr)
theorem Cur.grown {w w' : World} {bc : Nat} {A : Option Addr} {n c K : Nat} {row : Option Nat} (h : Cur w bc A n c K) (hg : w.grownBy w' row) (hr : ∀ k, row = some k → bc < k) : Cur w' bc A n c K := by
  have hlt := h.lt
  obtain ⟨h1, p, s, hblk, hp, hs⟩ := h
  exact ⟨h1.grown hg (by omega) (fun k hk => by have := hr k hk; omega), p, s, hblk.grown hg (fun he => by have := hr bc he.symm; omega), hp, hs⟩
theorem Cur.alloc {w : World} {bc : Nat} {A : Option Addr} {n c K : Nat} (h : Cur w bc A n c K) (o : Obj) : Cur (w.alloc o) bc A n c K := h.below ((Below.refl _ _).alloc (Nat.le_refl _) o)
theorem Kp.alloc {bc : Nat} {a b : World} (h : Kp bc a b) (o : Obj) : Kp bc a (b.alloc o) := h.trans (Kp.of_below ((Below.refl _ _).alloc (Nat.le_refl _) o))
theorem Kp.blk {bc g : Nat} {a b : World} {t : TypeId} {cs : Array Value} (hb : Blk a g t cs) (h : Kp bc a b) (hne : g ≠ bc) : Blk b g t cs := hb.grown h (fun he => by injection he with he; exact hne he)
theorem Kp.more {bc : Nat} {a b c : World} {row : Option Nat} (h : Kp bc a b) (k : b.grownBy c row) (hr : ∀ j, row = some j → a.heap.size ≤ j) : Kp bc a c := h.andThen k (fun j hj => .inl (hr j hj))

set_option maxRecDepth 100000 in
set_option maxHeartbeats 2000000 in
theorem raw_any (w : World) (bc : Nat) (A : Option Addr) (n c K : Nat) (hc : Cur w bc A n c K) (hK : K ≤ 900000) (hn : n ≤ 1048576) :
    Calls Tryd.prog 74 #[.pointer (some ⟨bc, 0, none⟩)] w fun e w' => ∃ r : Int, e = .returned (.int .i64 r) ∧ Cur w' bc A n c (K + 2) ∧ Kp bc w w' := by
  go_enter Tryd.func74, Tryd.ntmps74
  go_wp2_with fail
  refine (pick_any w bc A n c K 8 hc (by omega) (by omega) hn).mono ?_
  rintro e w1 ⟨r, rfl, hr, hc1, hk1⟩
  by_cases r0 : r = 0
  · subst r0
    go_wp2_with fail
    refine (pick_any w1 bc A n c (K + 1) 256 hc1 (by omega) (by omega) hn).mono ?_
    rintro e w2 ⟨x, rfl, hx, hc2, hk2⟩
    go_wp2
    go_ret
    exact ⟨_, rfl, hc2, hk1.trans hk2⟩
  · by_cases r1 : r = 1
    · subst r1
      go_wp2_with fail
      refine (pick_any _ bc A n c (K + 1) 8 (hc1.alloc _) (by omega) (by omega) hn).mono ?_
      rintro e w2 ⟨x, rfl, hx, hc2, hk2⟩
      have hbk := Kp.blk (Blk.made w1 _ _) hk2 (by have := hc1.lt; omega)
      obtain ⟨v, hv⟩ : ∃ v, w2.cell? ⟨w1.heap.size, x, none⟩ = some (.int .i64 v) := by
        have hx8 : x = 0 ∨ x = 1 ∨ x = 2 ∨ x = 3 ∨ x = 4 ∨ x = 5 ∨ x = 6 ∨ x = 7 := by omega
        rcases hx8 with rfl | rfl | rfl | rfl | rfl | rfl | rfl | rfl <;> exact ⟨_, hbk.cell _⟩
      have hx8 : x < 8 := by omega
      have HK := Lib.hid (hk1.trans ((Kp.of_below ((Below.refl _ _).alloc (Nat.le_refl _) _)).trans hk2))
      clear hbk hk2
      go_wp2
      go_ret
      exact ⟨_, rfl, hc2, HK.out⟩
    · have e0 : ¬ ((r : Int) = 0) := by omega
      have e1 : ¬ ((r : Int) = 1) := by omega
      go_wp2_with fail
      refine (pick_any w1 bc A n c (K + 1) 14 hc1 (by omega) (by omega) hn).mono ?_
      rintro e w2 ⟨x, rfl, hx, hc2, hk2⟩
      go_wp2
      go_ret
      exact ⟨_, rfl, hc2, hk1.trans hk2⟩

/-- what a draw of tokens gives: a row of its own that is not empty -/
def Drew (bc : Nat) (A : Option Addr) (n c K : Nat) (w : World) (e : Ending) (w' : World) : Prop :=
  ∃ g cap l, e = .returned (.slice (some ⟨g, 0, none⟩) l.length cap) ∧ 1 ≤ l.length ∧ l.length ≤ 24 ∧ OwnT w' w.heap.size (some ⟨g, 0, none⟩) l.length cap l ∧ Cur w' bc A n c K ∧ Kp bc w w'

theorem own_tok (w : World) (a b : Int) : OwnT (w.alloc (.cells #[.int .i64 a, .int .i64 b] 66)) w.heap.size (some ⟨w.heap.size, 0, none⟩) 1 1 [(a, b)] :=
  ⟨rfl, .inr ⟨w.heap.size, 1, _, rfl, Nat.le_refl _, Blk.made w 66 _, Nat.le_refl _, by simp [maxLen], rfl, rfl⟩⟩

set_option maxRecDepth 100000 in
set_option maxHeartbeats 2000000 in
theorem leaf_any (w : World) (bc : Nat) (A : Option Addr) (n c K : Nat) (hc : Cur w bc A n c K) (hK : K ≤ 900000) (hn : n ≤ 1048576) :
    Calls Tryd.prog 89 #[.pointer (some ⟨bc, 0, none⟩)] w (Drew bc A n c (K + 4) w) := by
  obtain ⟨i0, hi, hz0, hz1, hz2⟩ := info_parts info_tok
  have hlt := hc.lt
  go_enter Tryd.func89, Tryd.ntmps89
  go_wp2_with fail
  refine (pick_any w bc A n c K 3 hc (by omega) (by omega) hn).mono ?_
  rintro e w1 ⟨r, rfl, hr, hc1, hk1⟩
  have s1 := hk1.size
  go_wp2_with fail
  refine (once_any _ bc A n c (K + 1) 4 (hc1.alloc _) (by omega) (by omega) hn).mono ?_
  rintro e w2 ⟨b, rfl, hc2, hk2⟩
  have s2 := hk2.size
  simp only [World.size_alloc] at s2
  have ho2 := Kp.own (own_base (base' := w.heap.size) (own_tok w1 4 r) s1) hk2 (by omega)
  have hk12 := (hk1.alloc _).trans hk2
  clear hk1 hk2
  cases b with
  | true =>
    have hoX := Lib.hid (own_base (base' := w.heap.size) (own_tok w2 0 0) (by omega))
    have hcX := hc2.alloc (.cells #[.int .i64 0, .int .i64 0] 66)
    have hkX := hk12.alloc (.cells #[.int .i64 0, .int .i64 0] 66)
    clear ho2 hc2 hk12
    go_wp2_with fail
    refine (pick_any _ bc A n c (K + 2) 3 hcX (by omega) (by omega) hn).mono ?_
    rintro e w3 ⟨x, rfl, hx, hc3, hk3⟩
    have hk03 := hkX.trans hk3
    have ho3 := Lib.hid (Kp.own hoX.out hk3 (by omega))
    clear hoX hcX hkX hk3
    go_wp2_with fail
    refine (pick_any w3 bc A n c (K + 3) 2 hc3 (by omega) (by omega) hn).mono ?_
    rintro e w4 ⟨y, rfl, hy, hc4, hk4⟩
    have hk04 := hk03.trans hk4
    have ho4 := Lib.hid (Kp.own ho3.out hk4 (by omega))
    have s4 := hk04.size
    clear ho3 hc3 hk03 hk4
    obtain ⟨q, hq⟩ : ∃ q, x * y = q := ⟨_, rfl⟩
    have hq2 : q ≤ 2 := by
      rcases (show y = 0 ∨ y = 1 by omega) with rfl | rfl
      · omega
      · omega
    have hmul : (x : Int) * (y : Int) = (q : Int) := by rw [← hq]; simp
    clear hq
    go_wp2
    go_loopw [3, 4] (fun v i wr => ∃ (j g cap : Nat) (l : List (Int × Int)), i = .int .i64 j ∧ v = .slice (some ⟨g, 0, none⟩) l.length cap ∧ 1 ≤ l.length ∧ l.length + j ≤ 3 ∧ OwnT wr w.heap.size (some ⟨g, 0, none⟩) l.length cap l ∧ Cur wr bc A n c (K + 4) ∧ Kp bc w wr) (fun _ i _ => (intOf i).toNat)
    case atStart => exact ⟨q, _, 1, [_], rfl, rfl, Nat.le_refl _, (by simp; omega), ho4.out, hc4, hk04⟩
    case round =>
      obtain ⟨j, g, cap, l, rfl, rfl, hl1, hlj, hown, hcr, hkr⟩ := hrel
      have hszr := hkr.size
      by_cases hj : 0 < j
      · have hpos : (0 : Int) < (j : Int) := by omega
        obtain ⟨L, hL⟩ : ∃ L, l.length = L := ⟨_, rfl⟩
        rw [hL] at hown hl1 hlj ⊢
        go_wp2_with (at_builtin; refine wpList_append_own _ rfl (.tmp 22) (.tmp 24) 24 rfl w.heap.size 66 i0 (.agg #[.int .i64 0, .int .i64 0]) 2 16 Tryd.underlying24 hi hz0 hz1 hz2 rfl (by decide) (.slice (some ⟨g, 0, none⟩) L cap) L (tokCells l) rfl (hown.alloc _) ⟨wr.heap.size, 0, none⟩ 1 1 (tokCells [(1, 0)]) rfl rfl (Blk.tokA2 _ _ _) (tokCells_one _) (by unfold maxLen; omega) (by omega) (by simp; omega) ?_; intro v' w5 hown' hgrow hnil)
        obtain ⟨g2, cap2, rfl⟩ : ∃ g' cap', v' = .slice (some ⟨g', 0, none⟩) (L + 1) cap' := by
          rcases hown'.2 with ⟨h0, _⟩ | ⟨g', cap', _, h0, _⟩
          · have := (hnil.1 h0).1
            cases this
          · exact ⟨g', cap', h0⟩
        have HLn : Hid ((l ++ [((1 : Int), (0 : Int))]).length = L + 1) := by show _ = _; simp [hL]
        have HW : Hid (OwnT w5 w.heap.size (some ⟨g2, 0, none⟩) (l ++ [(1, 0)]).length cap2 (l ++ [(1, 0)])) := by
          show OwnT _ _ _ _ _ _
          rw [HLn.out]
          unfold OwnT
          rw [tokCells_append]
          exact hown'
        have HC := Lib.hid ((hcr.alloc _).grown hgrow (fun k h => by have := (hown.lt k h).1; omega))
        have HK := Lib.hid ((hkr.alloc _).more hgrow (fun k h => (hown.lt k h).1))
        clear hown hown' hgrow hnil hcr hkr hL
        go_wp2
        go_roundw
        case rel => exact ⟨j - 1, g2, cap2, l ++ [(1, 0)], by go_num, by rw [HLn.out], by rw [HLn.out]; omega, by rw [HLn.out]; omega, HW.out, HC.out, HK.out⟩
        case measure => simp [intOf]; omega
      · obtain rfl : j = 0 := by omega
        go_wp2
        go_ret
        exact ⟨g, cap, l, rfl, hl1, by omega, hown, hcr, hkr⟩
  | false =>
    have hoX := Lib.hid (ho2)
    have hcX := hc2
    have hkX := hk12
    clear ho2 hc2 hk12
    go_wp2_with fail
    refine (pick_any _ bc A n c (K + 2) 3 hcX (by omega) (by omega) hn).mono ?_
    rintro e w3 ⟨x, rfl, hx, hc3, hk3⟩
    have hk03 := hkX.trans hk3
    have ho3 := Lib.hid (Kp.own hoX.out hk3 (by omega))
    clear hoX hcX hkX hk3
    go_wp2_with fail
    refine (pick_any w3 bc A n c (K + 3) 2 hc3 (by omega) (by omega) hn).mono ?_
    rintro e w4 ⟨y, rfl, hy, hc4, hk4⟩
    have hk04 := hk03.trans hk4
    have ho4 := Lib.hid (Kp.own ho3.out hk4 (by omega))
    have s4 := hk04.size
    clear ho3 hc3 hk03 hk4
    obtain ⟨q, hq⟩ : ∃ q, x * y = q := ⟨_, rfl⟩
    have hq2 : q ≤ 2 := by
      rcases (show y = 0 ∨ y = 1 by omega) with rfl | rfl
      · omega
      · omega
    have hmul : (x : Int) * (y : Int) = (q : Int) := by rw [← hq]; simp
    clear hq
    go_wp2
    go_loopw [3, 4] (fun v i wr => ∃ (j g cap : Nat) (l : List (Int × Int)), i = .int .i64 j ∧ v = .slice (some ⟨g, 0, none⟩) l.length cap ∧ 1 ≤ l.length ∧ l.length + j ≤ 3 ∧ OwnT wr w.heap.size (some ⟨g, 0, none⟩) l.length cap l ∧ Cur wr bc A n c (K + 4) ∧ Kp bc w wr) (fun _ i _ => (intOf i).toNat)
    case atStart => exact ⟨q, _, 1, [_], rfl, rfl, Nat.le_refl _, (by simp; omega), ho4.out, hc4, hk04⟩
    case round =>
      obtain ⟨j, g, cap, l, rfl, rfl, hl1, hlj, hown, hcr, hkr⟩ := hrel
      have hszr := hkr.size
      by_cases hj : 0 < j
      · have hpos : (0 : Int) < (j : Int) := by omega
        obtain ⟨L, hL⟩ : ∃ L, l.length = L := ⟨_, rfl⟩
        rw [hL] at hown hl1 hlj ⊢
        go_wp2_with (at_builtin; refine wpList_append_own _ rfl (.tmp 22) (.tmp 24) 24 rfl w.heap.size 66 i0 (.agg #[.int .i64 0, .int .i64 0]) 2 16 Tryd.underlying24 hi hz0 hz1 hz2 rfl (by decide) (.slice (some ⟨g, 0, none⟩) L cap) L (tokCells l) rfl (hown.alloc _) ⟨wr.heap.size, 0, none⟩ 1 1 (tokCells [(1, 0)]) rfl rfl (Blk.tokA2 _ _ _) (tokCells_one _) (by unfold maxLen; omega) (by omega) (by simp; omega) ?_; intro v' w5 hown' hgrow hnil)
        obtain ⟨g2, cap2, rfl⟩ : ∃ g' cap', v' = .slice (some ⟨g', 0, none⟩) (L + 1) cap' := by
          rcases hown'.2 with ⟨h0, _⟩ | ⟨g', cap', _, h0, _⟩
          · have := (hnil.1 h0).1
            cases this
          · exact ⟨g', cap', h0⟩
        have HLn : Hid ((l ++ [((1 : Int), (0 : Int))]).length = L + 1) := by show _ = _; simp [hL]
        have HW : Hid (OwnT w5 w.heap.size (some ⟨g2, 0, none⟩) (l ++ [(1, 0)]).length cap2 (l ++ [(1, 0)])) := by
          show OwnT _ _ _ _ _ _
          rw [HLn.out]
          unfold OwnT
          rw [tokCells_append]
          exact hown'
        have HC := Lib.hid ((hcr.alloc _).grown hgrow (fun k h => by have := (hown.lt k h).1; omega))
        have HK := Lib.hid ((hkr.alloc _).more hgrow (fun k h => (hown.lt k h).1))
        clear hown hown' hgrow hnil hcr hkr hL
        go_wp2
        go_roundw
        case rel => exact ⟨j - 1, g2, cap2, l ++ [(1, 0)], by go_num, by rw [HLn.out], by rw [HLn.out]; omega, by rw [HLn.out]; omega, HW.out, HC.out, HK.out⟩
        case measure => simp [intOf]; omega
      · obtain rfl : j = 0 := by omega
        go_wp2
        go_ret
        exact ⟨g, cap, l, rfl, hl1, by omega, hown, hcr, hkr⟩
end Go.Proofs.YtijiohdddfdjfaaDoor

namespace Go.Proofs.YtijiohdddfdjfaaDoor
open Go.RowKit

theorem at_kpT {a b : World} {base bc : Nat} {A : Option Addr} {n c : Nat} {xs : List Value} (h : OwnO a base A n c xs) (hk : Kp bc a b) (hb : bc < base) : OwnO b base A n c xs :=
  at_kept h hk fun k hk' e => by
    have := (h.lt k hk').1
    injection e with e
    omega
theorem Blk.of_drew {w : World} {g : Nat} {t : TypeId} {cs : Array Value} (h : Blk w g t cs) : Blk w.drew g t cs := h
/-- the cells of the table, once the residual is laid -/
def laidCs (cs : Array Value) (off j : Nat) (v : Value) : Array Value :=
  (((cs.setIfInBounds (off + 1) (.int .i32 1)).setIfInBounds j v).setIfInBounds off (.int .u32 1)).setIfInBounds (off + 1) (.int .i32 0)
/-- what Do leaves the first time -/
def DoneOut (w : World) (b off j : Nat) (cs : Array Value) (l : List (Int × Int)) (e : Ending) (w' : World) : Prop :=
  e = .returned (.tuple #[]) ∧ ∃ A5 c5, Blk w' b 92 (laidCs cs off j (.slice A5 l.length c5)) ∧ OwnO w' w.heap.size A5 l.length c5 (tokCells l) ∧ Kp b w w'

set_option maxRecDepth 100000 in
set_option maxHeartbeats 6400000 in
theorem slow_any (w : World) (B b pt ps S off : Nat) (A : Option Addr) (n c : Nat) (l : List (Int × Int)) (T : TypeId) (pv : Value) (cs : Array Value) (h0 : 0 < B) (hB : B ≤ w.heap.size) (hBb : B ≤ b)
    (hl : TokR w B A n l) (hok : Lv.levelOk l = true) (hS : S < 32) (hoff : 1 ≤ off ∧ off + 1 < 97) (hE : ErrAt w T pv) (hblk : Blk w b 92 cs) (hcs : cs.size = 129) (ht : cs[0]? = some (.slice A n c))
    (hp : w.cell? ⟨pt, 0, none⟩ = some (.pointer (some ⟨b, 0, none⟩))) (hs : w.cell? ⟨ps, 0, none⟩ = some (.int .i64 S)) (hpb : pt ≠ b) (hsb : ps ≠ b)
    (hd : cs[off]? = some (.int .u32 0)) (hm : cs[off + 1]? = some (.int .i32 0)) :
    Calls Tryd.prog 103 #[.pointer (some ⟨b, off, none⟩), .func (.func 84) #[] #[.pointer (some ⟨pt, 0, none⟩), .pointer (some ⟨ps, 0, none⟩)]] w (DoneOut w b off (97 + S) cs (Nm.rnorm (Nm.wl S l))) := by
  have hbt := hblk.lt
  have m0 : w.cell? ⟨b, off + 1, none⟩ = some (.int .i32 0) := (hblk.cell _).trans hm
  have hk1 : Kp b w (w.setCell ⟨b, off + 1, none⟩ (.int .i32 1)) := Kp.put w b (off + 1) _
  have hb1 := hblk.put (off + 1) (.int .i32 1)
  have hd1 : (w.setCell ⟨b, off + 1, none⟩ (.int .i32 1)).cell? ⟨b, off, none⟩ = some (.int .u32 0) := (hb1.cell off).trans (by rw [Array.getElem?_setIfInBounds_ne (by omega)]; exact hd)
  have hp1 : (w.setCell ⟨b, off + 1, none⟩ (.int .i32 1)).cell? ⟨pt, 0, none⟩ = some (.pointer (some ⟨b, 0, none⟩)) := (World.cell?_setCell_other _ ⟨b, off + 1, none⟩ ⟨pt, 0, none⟩ _ (fun h => hpb (congrArg Addr.block h).symm)).trans hp
  have hs1 : (w.setCell ⟨b, off + 1, none⟩ (.int .i32 1)).cell? ⟨ps, 0, none⟩ = some (.int .i64 S) := (World.cell?_setCell_other _ ⟨b, off + 1, none⟩ ⟨ps, 0, none⟩ _ (fun h => hsb (congrArg Addr.block h).symm)).trans hs
  have hbel1 : Below B w (w.setCell ⟨b, off + 1, none⟩ (.int .i32 1)) := (Below.refl B w).setCell (p := ⟨b, off + 1, none⟩) hBb _
  have HFILL := Lib.hid (fill_any (w.setCell ⟨b, off + 1, none⟩ (.int .i32 1)) B b pt ps S A n c l T pv _ h0 (Nat.le_trans hB hbel1.size) (hl.below hbel1) hok hS (hE.below hbel1 h0) hb1 (by simp [hcs]) (by rw [Array.getElem?_setIfInBounds_ne (by omega)]; exact ht) hp1 hs1)
  have HZ := Lib.hid (hblk.thawed (off + 1))
  have HDC := Lib.hid hd
  have HB1 := Lib.hid hb1
  have HK1 := Lib.hid hk1
  have HM0 := Lib.hid m0
  have HD1 := Lib.hid hd1
  have hw1 : (w.setCell ⟨b, off + 1, none⟩ (.int .i32 1)).heap.size = w.heap.size := by simp
  generalize hW1 : w.setCell ⟨b, off + 1, none⟩ (.int .i32 1) = w1 at HFILL HB1 HK1 HD1 hw1
  have HW1 := Lib.hid hW1
  clear hW1 hblk hl hE hp hs hp1 hs1 hbel1 hb1 hk1 m0 hd1 hd hm
  go_enter_defers Tryd.func103, Tryd.ntmps103
  go_wp2_with fail
  refine (lock_free ⟨b, off + 1, none⟩ w HM0.out HZ.out).mono ?_
  rintro e w' ⟨rfl, hw'⟩
  rw [HW1.out] at hw'
  subst hw'
  go_wp2_with fail
  refine (load_word ⟨b, off, none⟩ 0 _ HD1.out).mono ?_
  rintro e w' ⟨rfl, rfl⟩
  go_wp2_with fail
  refine HFILL.out.mono ?_
  rintro e w2 ⟨rfl, A5, c5, w5, rfl, ho5, hb5⟩
  have hk5 := HB1.out.below hb5 (by omega)
  have hk6 := hk5.put (97 + S) (.slice A5 (Nm.rnorm (Nm.wl S l)).length c5)
  have kp5 := HK1.out.trans (Kp.of_below (bc := b) hb5)
  have kp6 := kp5.trans (Kp.put w5 b (97 + S) (.slice A5 (Nm.rnorm (Nm.wl S l)).length c5))
  have ho6 := at_kpT ho5 (Kp.put w5 b (97 + S) (.slice A5 (Nm.rnorm (Nm.wl S l)).length c5)) (by omega)
  have kd := (Kp.refl b (w5.setCell ⟨b, 97 + S, none⟩ (.slice A5 (Nm.rnorm (Nm.wl S l)).length c5))).drew
  have hk7 := (Blk.of_drew hk6).put off (.int .u32 1)
  have kp7 := kp6.trans (kd.trans (Kp.put _ b off (.int .u32 1)))
  have ho7 := at_kpT ho6 (kd.trans (Kp.put _ b off (.int .u32 1))) (by omega)
  have hk8 := hk7.put (off + 1) (.int .i32 0)
  have kp8 := kp7.trans (Kp.put _ b (off + 1) (.int .i32 0))
  have ho8 := at_kpT ho7 (Kp.put _ b (off + 1) (.int .i32 0)) (by omega)
  rw [hw1] at ho8
  have HFIN : Hid (DoneOut w b off (97 + S) cs (Nm.rnorm (Nm.wl S l)) (.returned (.tuple #[])) ((((w5.setCell ⟨b, 97 + S, none⟩ (.slice A5 (Nm.rnorm (Nm.wl S l)).length c5)).drew.setCell ⟨b, off, none⟩ (.int .u32 1))).setCell ⟨b, off + 1, none⟩ (.int .i32 0))) := ⟨rfl, A5, c5, hk8, ho8, kp8⟩
  have c1 : (w5.setCell ⟨b, 97 + S, none⟩ (.slice A5 (Nm.rnorm (Nm.wl S l)).length c5)).cell? ⟨b, off, none⟩ = some (.int .u32 0) := (hk6.cell off).trans (by rw [Array.getElem?_setIfInBounds_ne (by omega), Array.getElem?_setIfInBounds_ne (by omega)]; exact HDC.out)
  have c2 := hk6.thawed off
  have c3 : ((w5.setCell ⟨b, 97 + S, none⟩ (.slice A5 (Nm.rnorm (Nm.wl S l)).length c5)).drew.setCell ⟨b, off, none⟩ (.int .u32 1)).cell? ⟨b, off + 1, none⟩ = some (.int .i32 1) := (hk7.cell (off + 1)).trans (by rw [Array.getElem?_setIfInBounds_ne (by omega), Array.getElem?_setIfInBounds_ne (by omega), Array.getElem?_setIfInBounds_self_of_lt (by omega)])
  have c4 := hk7.thawed (off + 1)
  have HC1 := Lib.hid c1
  have HC2 := Lib.hid c2
  have HC3 := Lib.hid c3
  have HC4 := Lib.hid c4
  clear c1 c2 c3 c4 hk5 hk6 hk7 hk8 kp5 kp6 kp7 kp8 ho5 ho6 ho7 ho8 kd hb5
  go_wp2
  refine leaves_cons (f := 120) (args := #[.pointer (some ⟨b, off, none⟩), .bool true]) (by simp) (by simp [go_sem]) ?_
  refine (store_deferred ⟨b, off, none⟩ (.int .u32 0) .returning _ HC1.out HC2.out).mono ?_
  rintro e u' w'' ⟨rfl, rfl, rfl⟩
  refine leaves_cons (f := 119) (args := #[.pointer (some ⟨b, off + 1, none⟩)]) (by simp [settle]) (by simp [go_sem]) ?_
  refine (unlock_deferred ⟨b, off + 1, none⟩ _ _ HC3.out HC4.out).mono ?_
  rintro e u' w'' ⟨rfl, rfl, rfl⟩
  have hfin := HFIN.out
  simp [Leaves, settle, results, Tryd.results103]
  exact hfin

set_option maxRecDepth 100000 in
set_option maxHeartbeats 3200000 in
theorem do_first (w : World) (B b pt ps S off : Nat) (A : Option Addr) (n c : Nat) (l : List (Int × Int)) (T : TypeId) (pv : Value) (cs : Array Value) (h0 : 0 < B) (hB : B ≤ w.heap.size) (hBb : B ≤ b)
    (hl : TokR w B A n l) (hok : Lv.levelOk l = true) (hS : S < 32) (hoff : 1 ≤ off ∧ off + 1 < 97) (hE : ErrAt w T pv) (hblk : Blk w b 92 cs) (hcs : cs.size = 129) (ht : cs[0]? = some (.slice A n c))
    (hp : w.cell? ⟨pt, 0, none⟩ = some (.pointer (some ⟨b, 0, none⟩))) (hs : w.cell? ⟨ps, 0, none⟩ = some (.int .i64 S)) (hpb : pt ≠ b) (hsb : ps ≠ b)
    (hd : cs[off]? = some (.int .u32 0)) (hm : cs[off + 1]? = some (.int .i32 0)) :
    Calls Tryd.prog 83 #[.pointer (some ⟨b, off, none⟩), .func (.func 84) #[] #[.pointer (some ⟨pt, 0, none⟩), .pointer (some ⟨ps, 0, none⟩)]] w (DoneOut w b off (97 + S) cs (Nm.rnorm (Nm.wl S l))) := by
  have HS := Lib.hid (slow_any w B b pt ps S off A n c l T pv cs h0 hB hBb hl hok hS hoff hE hblk hcs ht hp hs hpb hsb hd hm)
  have HD := Lib.hid ((hblk.cell off).trans hd)
  clear hl hE hblk hp hs hd hm
  go_enter Tryd.func83, Tryd.ntmps83
  go_wp2_with fail
  refine (load_word ⟨b, off, none⟩ 0 _ HD.out).mono ?_
  rintro e w' ⟨rfl, rfl⟩
  go_wp2_with fail
  refine HS.out.mono ?_
  rintro e w1 ⟨rfl, h⟩
  have H := Lib.hid h
  clear h
  go_wp2
  go_end0
  exact ⟨rfl, H.out⟩

set_option maxRecDepth 100000 in
theorem do_done (w : World) (a : Addr) (fv : Value) (hd : w.cell? a = some (.int .u32 1)) :
    Calls Tryd.prog 83 #[.pointer (some a), fv] w fun e w' => e = .returned (.tuple #[]) ∧ w' = w := by
  go_enter Tryd.func83, Tryd.ntmps83
  go_wp2_with fail
  refine (load_word a 1 _ hd).mono ?_
  rintro e w' ⟨rfl, rfl⟩
  go_wp2
  go_end0
  exact ⟨rfl, rfl⟩
end Go.Proofs.YtijiohdddfdjfaaDoor

namespace Go.Proofs.YtijiohdddfdjfaaDoor
open Go.RowKit

/-- the residual of a level for a sign -/
abbrev rsd (l : List (Int × Int)) (S : Nat) : List (Int × Int) := Nm.rnorm (Nm.wl (S : Int) l)
/-- a row of the table -/
def RowOk (w : World) (b : Nat) (l : List (Int × Int)) (cs : Array Value) (S : Nat) : Prop :=
  (cs[1 + S * 3]? = some (.int .u32 0) ∧ cs[1 + S * 3 + 1]? = some (.int .i32 0)) ∨
  (cs[1 + S * 3]? = some (.int .u32 1) ∧ ∃ A' c', cs[97 + S]? = some (.slice A' (rsd l S).length c') ∧ OwnO w (b + 1) A' (rsd l S).length c' (tokCells (rsd l S)))
/-- the table -/
def Tab (w : World) (b : Nat) (A : Option Addr) (n c : Nat) (l : List (Int × Int)) (cs : Array Value) : Prop :=
  Blk w b 92 cs ∧ cs.size = 129 ∧ cs[0]? = some (.slice A n c) ∧ ∀ S, S < 32 → RowOk w b l cs S
theorem Tab.kept {w w' : World} {b : Nat} {A : Option Addr} {n c : Nat} {l : List (Int × Int)} {cs : Array Value} (h : Tab w b A n c l cs) (hb : Below w.heap.size w w') : Tab w' b A n c l cs := by
  refine ⟨h.1.below hb h.1.lt, h.2.1, h.2.2.1, fun S hS => ?_⟩
  rcases h.2.2.2 S hS with h1 | ⟨h1, A', c', h2, h3⟩
  · exact .inl h1
  · exact .inr ⟨h1, A', c', h2, at_below' h3 hb⟩
theorem laidCs_get {cs : Array Value} {off j k : Nat} {v : Value} (h1 : k ≠ off) (h2 : k ≠ off + 1) (h3 : k ≠ j) : (laidCs cs off j v)[k]? = cs[k]? := by
  unfold laidCs
  rw [Array.getElem?_setIfInBounds_ne (Ne.symm h2), Array.getElem?_setIfInBounds_ne (Ne.symm h1), Array.getElem?_setIfInBounds_ne (Ne.symm h3), Array.getElem?_setIfInBounds_ne (Ne.symm h2)]
theorem laidCs_size {cs : Array Value} {off j : Nat} {v : Value} : (laidCs cs off j v).size = cs.size := by simp [laidCs]
theorem laidCs_off {cs : Array Value} {off j : Nat} {v : Value} (h : off < cs.size) : (laidCs cs off j v)[off]? = some (.int .u32 1) := by
  unfold laidCs
  rw [Array.getElem?_setIfInBounds_ne (by omega), Array.getElem?_setIfInBounds_self_of_lt (by simpa using h)]
theorem laidCs_row {cs : Array Value} {off j : Nat} {v : Value} (h : j < cs.size) (h1 : j ≠ off) (h2 : j ≠ off + 1) : (laidCs cs off j v)[j]? = some v := by
  unfold laidCs
  rw [Array.getElem?_setIfInBounds_ne (Ne.symm h2), Array.getElem?_setIfInBounds_ne (Ne.symm h1), Array.getElem?_setIfInBounds_self_of_lt (by simpa using h)]
theorem Tab.laid {w w' : World} {b S n c c5 : Nat} {A A5 : Option Addr} {l : List (Int × Int)} {cs : Array Value} (h : Tab w b A n c l cs) (hS : S < 32)
    (hblk : Blk w' b 92 (laidCs cs (1 + S * 3) (97 + S) (.slice A5 (rsd l S).length c5))) (ho : OwnO w' (b + 1) A5 (rsd l S).length c5 (tokCells (rsd l S))) (hk : Kp b w w') :
    Tab w' b A n c l (laidCs cs (1 + S * 3) (97 + S) (.slice A5 (rsd l S).length c5)) := by
  refine ⟨hblk, by rw [laidCs_size]; exact h.2.1, by rw [laidCs_get (by omega) (by omega) (by omega)]; exact h.2.2.1, fun S' hS' => ?_⟩
  have hsz := h.2.1
  by_cases e : S' = S
  · subst e
    exact .inr ⟨laidCs_off (by omega), A5, c5, laidCs_row (by omega) (by omega) (by omega), ho⟩
  · unfold RowOk
    rw [laidCs_get (by omega) (by omega) (by omega), laidCs_get (by omega) (by omega) (by omega), laidCs_get (by omega) (by omega) (by omega)]
    rcases h.2.2.2 S' hS' with h1 | ⟨h1, A', c', h2, h3⟩
    · exact .inl h1
    · exact .inr ⟨h1, A', c', h2, at_kpT h3 hk (by omega)⟩

theorem Kp.cellT {bc g o : Nat} {a b : World} (h : Kp bc a b) (hg : g ≠ bc) (hl : g < a.heap.size) : b.cell? ⟨g, o, none⟩ = a.cell? ⟨g, o, none⟩ := by
  have hb := h.block g hl (fun e => by injection e with e; exact hg e)
  simp only [World.cell?, hb]
theorem OwnO.of_drew {w : World} {base : Nat} {A : Option Addr} {n c : Nat} {xs : List Value} (h : OwnO w base A n c xs) : OwnO w.drew base A n c xs := h
theorem Tab.of_drew {w : World} {b : Nat} {A : Option Addr} {n c : Nat} {l : List (Int × Int)} {cs : Array Value} (h : Tab w b A n c l cs) : Tab w.drew b A n c l cs := h
/-- what a look at the table gives -/
def AtOut (w : World) (b : Nat) (A : Option Addr) (n c : Nat) (l : List (Int × Int)) (S : Nat) (e : Ending) (w' : World) : Prop :=
  ∃ A' c' cs', e = .returned (.slice A' (rsd l S).length c') ∧ OwnO w' (b + 1) A' (rsd l S).length c' (tokCells (rsd l S)) ∧ Tab w' b A n c l cs' ∧ Kp b w w'

set_option maxRecDepth 100000 in
set_option maxHeartbeats 6400000 in
theorem at_any (w : World) (B b S : Nat) (A : Option Addr) (n c : Nat) (l : List (Int × Int)) (T : TypeId) (pv : Value) (cs : Array Value) (h0 : 0 < B) (hB : B ≤ w.heap.size) (hBb : B ≤ b)
    (hl : TokR w B A n l) (hok : Lv.levelOk l = true) (hS : S < 32) (hE : ErrAt w T pv) (htab : Tab w b A n c l cs) :
    Calls Tryd.prog 64 #[.pointer (some ⟨b, 0, none⟩), .int .i64 S] w (AtOut w b A n c l S) := by
  have hmf : ∀ (fn : Fn) (first cap : Array Value) (w : World), (Instr.makeFunc fn first cap).run Tryd.prog w = .ok (.func fn first cap) w := fun _ _ _ _ => rfl
  have hbt := htab.1.lt
  have n1 : (0 : Int) ≤ (S : Int) := by omega
  have n2 : (S : Int) < 32 := by omega
  have hba : Below w.heap.size w ((w.alloc (.cells #[.pointer (some ⟨b, 0, none⟩)] 113)).alloc (.cells #[.int .i64 S] 3)) := ((Below.refl _ _).alloc (Nat.le_refl _) _).alloc (by simp) _
  have p1 : ((w.alloc (.cells #[.pointer (some ⟨b, 0, none⟩)] 113)).alloc (.cells #[.int .i64 S] 3)).cell? ⟨w.heap.size, 0, none⟩ = some (.pointer (some ⟨b, 0, none⟩)) := ((Blk.made w 113 #[.pointer (some ⟨b, 0, none⟩)]).alloc (.cells #[.int .i64 S] 3)).cell 0
  have p2 : ((w.alloc (.cells #[.pointer (some ⟨b, 0, none⟩)] 113)).alloc (.cells #[.int .i64 S] 3)).cell? ⟨w.heap.size + 1, 0, none⟩ = some (.int .i64 S) := by simp
  have hz2 : ((w.alloc (.cells #[.pointer (some ⟨b, 0, none⟩)] 113)).alloc (.cells #[.int .i64 S] 3)).heap.size = w.heap.size + 2 := by simp
  have htab2 := htab.kept hba
  have hl2 := hl.below (hba.mono hB)
  have hE2 := hE.below (hba.mono hB) h0
  have hwa : ∀ x, Below w.heap.size w x → x.heap.size ≥ w.heap.size := fun _ h => h.size
  generalize hW : ((w.alloc (.cells #[.pointer (some ⟨b, 0, none⟩)] 113)).alloc (.cells #[.int .i64 S] 3)) = wa at hba p1 p2 hz2 htab2 hl2 hE2
  have HW := Lib.hid hW
  have HP1 := Lib.hid p1
  have HP2 := Lib.hid p2
  have HTAB := Lib.hid htab2
  have HBA := Lib.hid hba
  have HDO : ∀ wx : World, Below wa.heap.size wa wx → Hid (cs[1 + S * 3]? = some (.int .u32 0) → cs[1 + S * 3 + 1]? = some (.int .i32 0) →
      Calls Tryd.prog 83 #[.pointer (some ⟨b, 1 + S * 3, none⟩), .func (.func 84) #[] #[.pointer (some ⟨w.heap.size, 0, none⟩), .pointer (some ⟨w.heap.size + 1, 0, none⟩)]] wx (DoneOut wx b (1 + S * 3) (97 + S) cs (rsd l S))) := fun wx hx h1 h2 =>
    do_first wx B b w.heap.size (w.heap.size + 1) S (1 + S * 3) A n c l T pv cs h0 (by have := hx.size; omega) hBb (hl2.below (hx.mono (by omega))) hok hS (by omega) (hE2.below (hx.mono (by omega)) h0) (htab2.1.below hx (by omega)) htab2.2.1 htab2.2.2.1
      ((hx.cell (p := ⟨w.heap.size, 0, none⟩) (by show w.heap.size < _; omega)).trans p1) ((hx.cell (p := ⟨w.heap.size + 1, 0, none⟩) (by show w.heap.size + 1 < _; omega)).trans p2) (by omega) (by omega) h1 h2
  rcases htab2.2.2.2 S hS with ⟨h1, h2⟩ | ⟨h1, A', c', h2, h3⟩
  · have HDO' := fun wx hx => Lib.hid ((HDO wx hx).out h1 h2)
    clear HDO htab htab2 hba hl hl2 hE hE2 h1 h2 hW p1 p2
    go_enter Tryd.func64, Tryd.ntmps64
    go_wp2_with fail
    rw [HW.out]
    have p1 := HP1.out
    have p2 := HP2.out
    go_region_law (first
      | (go_simp
         go_at_call 83
         refine (HDO' _ (Below.refl _ _).drew).out.mono ?_
         rintro e w5 ⟨rfl, A5, c5, hk5, ho5, kp5⟩
         have kp05 : Kp b wa w5 := ((Kp.refl b wa).drew).trans kp5
         have q1 := (Kp.cellT kp05 (by omega) (by omega)).trans HP1.out
         have q2 := (Kp.cellT kp05 (by omega) (by omega)).trans HP2.out
         have q3 := (hk5.cell (97 + S)).trans (laidCs_row (by have := HTAB.out.2.1; omega) (by omega) (by omega))
         have ho6 : OwnO w5 (b + 1) A5 (rsd l S).length c5 (tokCells (rsd l S)) := at_base ho5 (by simp; omega)
         have HT5 := Lib.hid (HTAB.out.laid hS hk5 ho6 kp05)
         have HO5 := Lib.hid ho6
         have HK5 := Lib.hid ((Kp.of_below (bc := b) HBA.out).trans kp05)
         clear hk5 ho5 kp5 ho6 kp05))
    all_goals
      clear HDO' p1 p2
      go_wp2_with fail
      go_region
    all_goals
      go_wp2
      go_ret
      exact ⟨A5, c5, _, rfl, OwnO.of_drew HO5.out, Tab.of_drew HT5.out, HK5.out.drew⟩
  · have hd := (htab2.1.cell (1 + S * 3)).trans h1
    have q3 := (htab2.1.cell (97 + S)).trans h2
    have HD := Lib.hid hd
    have HQ3 := Lib.hid q3
    have HO := Lib.hid h3
    clear HDO htab htab2 hba hl hl2 hE hE2 h1 h2 h3 hW p1 p2 hd q3
    go_enter Tryd.func64, Tryd.ntmps64
    go_wp2_with fail
    rw [HW.out]
    have p1 := HP1.out
    have p2 := HP2.out
    go_region_law (first
      | (go_simp
         go_at_call 83
         refine (do_done wa.drew ⟨b, 1 + S * 3, none⟩ _ HD.out).mono ?_
         rintro e w5 ⟨rfl, rfl⟩
         have q3 := HQ3.out))
    all_goals
      go_wp2_with fail
      go_region
    all_goals
      go_wp2
      go_ret
      exact ⟨A', c', _, rfl, OwnO.of_drew (OwnO.of_drew HO.out), Tab.of_drew (Tab.of_drew HTAB.out), (Kp.of_below HBA.out).drew.drew⟩
end Go.Proofs.YtijiohdddfdjfaaDoor

namespace Go.Proofs.YtijiohdddfdjfaaDoor
open Go.RowKit

set_option maxRecDepth 100000 in
set_option maxHeartbeats 2000000 in
theorem l03Same_any (w : World) (B : Nat) (A1 A2 : Option Addr) (n1 n2 c1 c2 : Nat) (l m : List (Int × Int)) (hB : B ≤ w.heap.size) (hl : TokR w B A1 n1 l) (hm : TokR w B A2 n2 m)
    (hn1 : (n1 : Int) ≤ 1048576) (hn2 : (n2 : Int) ≤ 1048576) :
    Calls Tryd.prog 63 #[.slice A1 n1 c1, .slice A2 n2 c2] w fun e w' => e = .returned (.bool (decide (l = m))) ∧ Below w.heap.size w w' := by
  by_cases hne : n1 = n2
  · subst hne
    have en : ((n1 : Int) != (n1 : Int)) = false := by simp
    go_enter Tryd.func63, Tryd.ntmps63
    go_wp2
    go_loopw [5] (fun i wr => ∃ k : Nat, k ≤ n1 ∧ i = .int .i64 k ∧ Agree (0, 0) k l m ∧ Below w.heap.size w wr) (fun i _ => n1 - (intOf i).toNat)
    case atStart => exact ⟨0, Nat.zero_le _, rfl, (fun j hj => absurd hj (by omega)), Below.refl _ _⟩
    case round =>
      obtain ⟨k, hk, rfl, hag, hbel⟩ := hrel
      have HG := Lib.hid hag
      clear hag
      by_cases hlt : k < n1
      · obtain ⟨b, off, rfl, hb, hc⟩ := hl.2 (by omega)
        obtain ⟨x1, x2⟩ := hc k hlt
        obtain ⟨b', off', rfl, hb', hc'⟩ := hm.2 (by omega)
        obtain ⟨y1, y2⟩ := hc' k hlt
        have HL := Lib.hid hl
        have HM := Lib.hid hm
        obtain ⟨t, ht⟩ : ∃ t, l.getD k (0, 0) = t := ⟨_, rfl⟩
        obtain ⟨u, hu⟩ : ∃ u, m.getD k (0, 0) = u := ⟨_, rfl⟩
        rw [ht] at x1 x2
        rw [hu] at y1 y2
        obtain ⟨p, q⟩ := t
        obtain ⟨r, s⟩ := u
        have HT := Lib.hid ht
        have HU := Lib.hid hu
        have k1 := (hbel.cell (p := ⟨b, off + k * 2, none⟩) (by show b < _; omega)).trans x1
        have k2 := (hbel.cell (p := ⟨b, off + k * 2 + 1, none⟩) (by show b < _; omega)).trans x2
        have k3 := (hbel.cell (p := ⟨b', off' + k * 2, none⟩) (by show b' < _; omega)).trans y1
        have k4 := (hbel.cell (p := ⟨b', off' + k * 2 + 1, none⟩) (by show b' < _; omega)).trans y2
        have HB := Lib.hid hbel.drew
        clear x1 x2 y1 y2 hc hc' ht hu hl hm hbel
        have HF : Hid ((p, q) ≠ (r, s) → decide (l = m) = false) := by
          show _ → _
          intro heq
          rw [decide_eq_false_iff_not]
          intro h
          apply heq
          rw [← HT.out, ← HU.out, h]
        by_cases e1 : p = r
        · subst e1
          by_cases e2 : q = s
          · subst e2
            have HA : Hid (Agree (0, 0) (k + 1) l m) := agree_step HG.out (by rw [HT.out, HU.out])
            go_wp2_with fail
            go_region
            go_wp2
            go_roundw
            case rel => exact ⟨k + 1, by omega, by go_num, HA.out, HB.out⟩
            case measure => simp [intOf]; omega
          · have HF2 := Lib.hid (HF.out (by simp [e2]))
            have d2 : (q == s) = false := by simpa using e2
            clear e2
            go_wp2_with fail
            go_region
            go_wp2
            go_ret
            exact ⟨by rw [HF2.out]; rfl, HB.out⟩
        · have HF2 := Lib.hid (HF.out (by simp [e1]))
          have d1 : (p == r) = false := by simpa using e1
          clear e1
          go_wp2_with fail
          go_region
          go_wp2
          go_ret
          exact ⟨by rw [HF2.out]; rfl, HB.out⟩
      · obtain rfl : k = n1 := by omega
        have HF : Hid (decide (l = m) = true) := by
          show _ = _
          rw [decide_eq_true_eq]
          exact agree_all hl.1 hm.1 HG.out
        clear hl hm
        go_wp2
        go_ret
        exact ⟨by rw [HF.out]; rfl, hbel⟩
  · have HF : Hid (decide (l = m) = false) := by
      show _ = _
      rw [decide_eq_false_iff_not]
      intro h
      apply hne
      rw [← hl.1, ← hm.1, h]
    have en : ((n1 : Int) != (n2 : Int)) = true := by simp; omega
    clear hl hm hne
    go_enter Tryd.func63, Tryd.ntmps63
    go_wp2
    go_ret
    exact ⟨by rw [HF.out]; rfl, Below.refl _ _⟩

set_option maxRecDepth 100000 in
set_option maxHeartbeats 2000000 in
theorem slicesEqual_any (w : World) (B : Nat) (A1 A2 : Option Addr) (n1 n2 c1 c2 : Nat) (l m : List (Int × Int)) (hB : B ≤ w.heap.size) (hl : TokR w B A1 n1 l) (hm : TokR w B A2 n2 m)
    (hn1 : (n1 : Int) ≤ 1048576) (hn2 : (n2 : Int) ≤ 1048576) :
    Calls Tryd.prog 66 #[.slice A1 n1 c1, .slice A2 n2 c2] w fun e w' => e = .returned (.bool (decide (l = m))) ∧ Below w.heap.size w w' := by
  by_cases hne : n1 = n2
  · subst hne
    have en : ((n1 : Int) != (n1 : Int)) = false := by simp
    go_enter Tryd.func66, Tryd.ntmps66
    go_wp2
    go_loopw [13] (fun i wr => ∃ k : Nat, k ≤ n1 ∧ i = .int .i64 k ∧ Agree (0, 0) k l m ∧ Below w.heap.size w wr) (fun i _ => n1 - (intOf i).toNat)
    case atStart => exact ⟨0, Nat.zero_le _, rfl, (fun j hj => absurd hj (by omega)), Below.refl _ _⟩
    case round =>
      obtain ⟨k, hk, rfl, hag, hbel⟩ := hrel
      have HG := Lib.hid hag
      clear hag
      by_cases hlt : k < n1
      · obtain ⟨b, off, rfl, hb, hc⟩ := hl.2 (by omega)
        obtain ⟨x1, x2⟩ := hc k hlt
        obtain ⟨b', off', rfl, hb', hc'⟩ := hm.2 (by omega)
        obtain ⟨y1, y2⟩ := hc' k hlt
        have HL := Lib.hid hl
        have HM := Lib.hid hm
        obtain ⟨t, ht⟩ : ∃ t, l.getD k (0, 0) = t := ⟨_, rfl⟩
        obtain ⟨u, hu⟩ : ∃ u, m.getD k (0, 0) = u := ⟨_, rfl⟩
        rw [ht] at x1 x2
        rw [hu] at y1 y2
        obtain ⟨p, q⟩ := t
        obtain ⟨r, s⟩ := u
        have HT := Lib.hid ht
        have HU := Lib.hid hu
        have k1 := (hbel.cell (p := ⟨b, off + k * 2, none⟩) (by show b < _; omega)).trans x1
        have k2 := (hbel.cell (p := ⟨b, off + k * 2 + 1, none⟩) (by show b < _; omega)).trans x2
        have k3 := (hbel.cell (p := ⟨b', off' + k * 2, none⟩) (by show b' < _; omega)).trans y1
        have k4 := (hbel.cell (p := ⟨b', off' + k * 2 + 1, none⟩) (by show b' < _; omega)).trans y2
        have HB := Lib.hid hbel.drew
        clear x1 x2 y1 y2 hc hc' ht hu hl hm hbel
        have HF : Hid ((p, q) ≠ (r, s) → decide (l = m) = false) := by
          show _ → _
          intro heq
          rw [decide_eq_false_iff_not]
          intro h
          apply heq
          rw [← HT.out, ← HU.out, h]
        by_cases e1 : p = r
        · subst e1
          by_cases e2 : q = s
          · subst e2
            have HA : Hid (Agree (0, 0) (k + 1) l m) := agree_step HG.out (by rw [HT.out, HU.out])
            go_wp2_with fail
            go_region
            go_wp2
            go_roundw
            case rel => exact ⟨k + 1, by omega, by go_num, HA.out, HB.out⟩
            case measure => simp [intOf]; omega
          · have HF2 := Lib.hid (HF.out (by simp [e2]))
            have d2 : (q == s) = false := by simpa using e2
            clear e2
            go_wp2_with fail
            go_region
            go_wp2
            go_ret
            exact ⟨by rw [HF2.out]; rfl, HB.out⟩
        · have HF2 := Lib.hid (HF.out (by simp [e1]))
          have d1 : (p == r) = false := by simpa using e1
          clear e1
          go_wp2_with fail
          go_region
          go_wp2
          go_ret
          exact ⟨by rw [HF2.out]; rfl, HB.out⟩
      · obtain rfl : k = n1 := by omega
        have HF : Hid (decide (l = m) = true) := by
          show _ = _
          rw [decide_eq_true_eq]
          exact agree_all hl.1 hm.1 HG.out
        clear hl hm
        go_wp2
        go_ret
        exact ⟨by rw [HF.out]; rfl, hbel⟩
  · have HF : Hid (decide (l = m) = false) := by
      show _ = _
      rw [decide_eq_false_iff_not]
      intro h
      apply hne
      rw [← hl.1, ← hm.1, h]
    have en : ((n1 : Int) != (n2 : Int)) = true := by simp; omega
    clear hl hm hne
    go_enter Tryd.func66, Tryd.ntmps66
    go_wp2
    go_ret
    exact ⟨by rw [HF.out]; rfl, Below.refl _ _⟩

set_option maxRecDepth 100000 in
theorem hasParam1_any (w : World) (q x p : Int) (pp : Nat) (hp : w.cell? ⟨pp, 0, none⟩ = some (.int .i64 p)) :
    Calls Tryd.prog 86 #[.agg #[.int .i64 q, .int .i64 x], .pointer (some ⟨pp, 0, none⟩)] w fun e w' => e = .returned (.bool (q == p)) ∧ Below w.heap.size w w' := by
  have hlt := World.block_lt_of_cell? w _ hp
  have hba : Below w.heap.size w (w.alloc (.cells #[.int .i64 q, .int .i64 x] 68)) := (Below.refl _ _).alloc (Nat.le_refl _) _
  have hp2 : ∀ ob, (w.alloc ob).cell? ⟨pp, 0, none⟩ = some (.int .i64 p) := fun ob => (((Below.refl w.heap.size w).alloc (Nat.le_refl _) ob).cell (p := ⟨pp, 0, none⟩) hlt).trans hp
  have HB := Lib.hid hba
  clear hba
  go_enter Tryd.func86, Tryd.ntmps86
  go_wp2
  go_ret
  exact ⟨rfl, HB.out⟩

/-- what a search for a parameter finds -/
def FoundP (l : List (Int × Int)) (p i : Int) : Prop := (i = -1 ∧ ∀ k, k < l.length → (l.getD k (0, 0)).1 ≠ p) ∨ (0 ≤ i ∧ ∃ k, k < l.length ∧ (l.getD k (0, 0)).1 = p)
open Classical in
/-- whether an atom bears the parameter -/
noncomputable def hasP (l : List (Int × Int)) (p : Int) : Bool := decide (∃ k, k < l.length ∧ (l.getD k (0, 0)).1 = p)
theorem hasP_iff (l : List (Int × Int)) (p : Int) : hasP l p = true ↔ ∃ k, k < l.length ∧ (l.getD k (0, 0)).1 = p := by simp [hasP]
theorem hasP_yes {l : List (Int × Int)} {p : Int} {k : Nat} (h : k < l.length) (e : (l.getD k (0, 0)).1 = p) : hasP l p = true := (hasP_iff l p).2 ⟨k, h, e⟩
theorem hasP_no {l : List (Int × Int)} {p : Int} (h : ∀ k, k < l.length → (l.getD k (0, 0)).1 ≠ p) : hasP l p = false := by
  cases e : hasP l p with
  | false => rfl
  | true => obtain ⟨k, h1, h2⟩ := (hasP_iff l p).1 e; exact absurd h2 (h k h1)
theorem FoundP.has {l : List (Int × Int)} {p i : Int} (h : FoundP l p i) : hasP l p = decide (0 ≤ i) := by
  rcases h with ⟨rfl, h⟩ | ⟨h0, k, h1, h2⟩
  · rw [hasP_no h]; rfl
  · rw [hasP_yes h1 h2, decide_eq_true h0]

set_option maxRecDepth 100000 in
set_option maxHeartbeats 2000000 in
theorem indexFunc_any (w : World) (B : Nat) (A : Option Addr) (n c : Nat) (l : List (Int × Int)) (p : Int) (pp : Nat) (hB : B ≤ w.heap.size) (hl : TokR w B A n l) (hn : (n : Int) ≤ 1048576) (hp : w.cell? ⟨pp, 0, none⟩ = some (.int .i64 p)) :
    Calls Tryd.prog 104 #[.slice A n c, .func (.func 86) #[] #[.pointer (some ⟨pp, 0, none⟩)]] w fun e w' => ∃ i : Int, e = .returned (.int .i64 i) ∧ FoundP l p i ∧ Below w.heap.size w w' := by
  have hlt0 := World.block_lt_of_cell? w _ hp
  go_enter Tryd.func104, Tryd.ntmps104
  go_wp2
  go_loopw [8] (fun i wr => ∃ k : Nat, k ≤ n ∧ i = .int .i64 k ∧ (∀ j, j < k → (l.getD j (0, 0)).1 ≠ p) ∧ Below w.heap.size w wr) (fun i _ => n - (intOf i).toNat)
  case atStart => exact ⟨0, Nat.zero_le _, rfl, (fun j hj => absurd hj (by omega)), Below.refl _ _⟩
  case round =>
    obtain ⟨k, hk, rfl, hag, hbel⟩ := hrel
    have HG := Lib.hid hag
    clear hag
    by_cases hlt : k < n
    · obtain ⟨b, off, rfl, hb, hc⟩ := hl.2 (by omega)
      obtain ⟨x1, x2⟩ := hc k hlt
      have HL := Lib.hid hl.1
      obtain ⟨t, ht⟩ : ∃ t, l.getD k (0, 0) = t := ⟨_, rfl⟩
      rw [ht] at x1 x2
      obtain ⟨q, x⟩ := t
      have HT := Lib.hid ht
      have k1 := (hbel.cell (p := ⟨b, off + k * 2, none⟩) (by show b < _; omega)).trans x1
      have k2 := (hbel.cell (p := ⟨b, off + k * 2 + 1, none⟩) (by show b < _; omega)).trans x2
      have HP := Lib.hid ((hbel.cell (p := ⟨pp, 0, none⟩) hlt0).trans hp)
      have hki : (k : Int) < (n : Int) := by omega
      clear x1 x2 hc ht hl
      go_wp2_with fail
      refine (hasParam1_any wr q x p pp HP.out).mono ?_
      rintro e w1 ⟨rfl, hb1⟩
      have HB := Lib.hid (hbel.trans (hb1.mono hbel.size))
      clear hb1 hbel k1 k2 HP
      by_cases e1 : q = p
      · subst e1
        go_wp2
        go_ret
        exact ⟨_, rfl, .inr ⟨by omega, k, by rw [HL.out]; exact hlt, by rw [HT.out]⟩, HB.out⟩
      · have d1 : (q == p) = false := by simpa using e1
        have HA : Hid (∀ j, j < k + 1 → (l.getD j (0, 0)).1 ≠ p) := fun j hj => by
          by_cases e : j = k
          · subst e; rw [HT.out]; exact e1
          · exact HG.out j (by omega)
        clear e1
        go_wp2
        go_roundw
        case rel => exact ⟨k + 1, by omega, by go_num, HA.out, HB.out⟩
        case measure => simp [intOf]; omega
    · obtain rfl : k = n := by omega
      have HL := Lib.hid hl.1
      clear hl
      go_wp2
      go_ret
      exact ⟨_, rfl, .inl ⟨rfl, fun j hj => HG.out j (by rw [HL.out] at hj; exact hj)⟩, hbel⟩

set_option maxRecDepth 100000 in
set_option maxHeartbeats 2000000 in
theorem hasParam_any (w : World) (B : Nat) (A : Option Addr) (n c : Nat) (l : List (Int × Int)) (p : Int) (hB : B ≤ w.heap.size) (hl : TokR w B A n l) (hn : (n : Int) ≤ 1048576) :
    Calls Tryd.prog 65 #[.slice A n c, .int .i64 p] w fun e w' => e = .returned (.bool (hasP l p)) ∧ Below w.heap.size w w' := by
  have hmf : ∀ (fn : Fn) (first cap : Array Value) (w : World), (Instr.makeFunc fn first cap).run Tryd.prog w = .ok (.func fn first cap) w := fun _ _ _ _ => rfl
  have hba : Below w.heap.size w (w.alloc (.cells #[.int .i64 p] 3)) := (Below.refl _ _).alloc (Nat.le_refl _) _
  have HI := Lib.hid (indexFunc_any (w.alloc (.cells #[.int .i64 p] 3)) B A n c l p w.heap.size (by simp; omega) (hl.below (hba.mono hB)) hn (by simp))
  have HB := Lib.hid hba
  clear hl hba
  go_enter Tryd.func65, Tryd.ntmps65
  go_wp2_with (go_at_call 85; go_in)
  refine HI.out.mono ?_
  rintro e w1 ⟨i, rfl, hf, hb1⟩
  have HH := Lib.hid hf.has
  have HB1 := Lib.hid (HB.out.trans (hb1.mono (by simp)))
  clear hf hb1
  go_wp2
  go_ret
  go_wp2
  exact ⟨HH.out.symm, HB1.out⟩
end Go.Proofs.YtijiohdddfdjfaaDoor

namespace Go.Proofs.YtijiohdddfdjfaaDoor

theorem bit_off : ∀ S : Nat, S < 32 → ∀ P : Nat, P < 5 → Sg.has (S : Int) (P : Int) = false → S + 2 ^ P < 32 ∧ S ^^^ 2 ^ P = S + 2 ^ P ∧ Sg.has ((S + 2 ^ P : Nat) : Int) (P : Int) = true := by decide +kernel
theorem bit_on : ∀ S : Nat, S < 32 → ∀ P : Nat, P < 5 → Sg.has (S : Int) (P : Int) = true → 2 ^ P ≤ S ∧ S ^^^ 2 ^ P = S - 2 ^ P ∧ Sg.has ((S - 2 ^ P : Nat) : Int) (P : Int) = false := by decide +kernel
theorem bit_lt : ∀ S : Nat, S < 32 → ∀ P : Nat, P < 5 → S ^^^ 2 ^ P < 32 := by decide +kernel

open Classical in
/-- what SignMerge answers -/
noncomputable def mergeR (l : List (Int × Int)) (p : Int) : Bool := decide (Lv.levelOk l = true ∧ 0 ≤ p ∧ p < 5 ∧ ∀ S : Nat, S < 32 → hasP (rsd l S) p = false ∧ rsd l S = rsd l (S ^^^ 2 ^ p.toNat))
theorem mergeR_no {l : List (Int × Int)} {p : Int} (h : ¬ (Lv.levelOk l = true ∧ 0 ≤ p ∧ p < 5)) : mergeR l p = false := by
  simp only [mergeR, decide_eq_false_iff_not]; exact fun hh => h ⟨hh.1, hh.2.1, hh.2.2.1⟩
theorem mergeR_not {l : List (Int × Int)} {P : Nat} {S : Nat} (hS : S < 32) (h : ¬ (hasP (rsd l S) P = false ∧ rsd l S = rsd l (S ^^^ 2 ^ P))) : mergeR l P = false := by
  simp only [mergeR, decide_eq_false_iff_not]
  intro hh
  have h4 := hh.2.2.2 S hS
  rw [Int.toNat_natCast] at h4
  exact h h4
theorem mergeR_yes {l : List (Int × Int)} {P : Nat} (hok : Lv.levelOk l = true) (hP : P < 5) (h : ∀ S : Nat, S < 32 → hasP (rsd l S) P = false ∧ rsd l S = rsd l (S ^^^ 2 ^ P)) : mergeR l P = true := by
  simp only [mergeR, decide_eq_true_eq]
  refine ⟨hok, by omega, by omega, fun S hS => ?_⟩
  rw [Int.toNat_natCast]
  exact h S hS
theorem rsd_sign {l : List (Int × Int)} {S P : Nat} (hok : Lv.levelOk l = true) (h : Sg.has (S : Int) (P : Int) = false) : hasP (rsd l S) P = false := by
  refine hasP_no fun k hk e => ?_
  rcases (wl_fine (s := (S : Int)) hok).2.1.rnorm _ (Nm.mem_getD hk) with h1 | h1
  · rw [e] at h1; omega
  · rw [e, h] at h1; cases h1
/-- the model looks at the signs without the parameter only -/
theorem merge_half {l : List (Int × Int)} {P : Nat} (hok : Lv.levelOk l = true) (hP : P < 5) (h : ∀ S : Nat, S < 32 → Sg.has (S : Int) (P : Int) = false → hasP (rsd l (S + 2 ^ P)) P = false ∧ rsd l S = rsd l (S + 2 ^ P)) : mergeR l P = true := by
  refine mergeR_yes hok hP fun S hS => ?_
  cases hh : Sg.has (S : Int) (P : Int) with
  | false =>
    rw [(bit_off S hS P hP hh).2.1]
    exact ⟨rsd_sign hok hh, (h S hS hh).2⟩
  | true =>
    obtain ⟨h1, h2, h3⟩ := bit_on S hS P hP hh
    have h4 := h (S - 2 ^ P) (Nat.lt_of_le_of_lt (Nat.sub_le _ _) hS) h3
    rw [Nat.sub_add_cancel h1] at h4
    rw [h2]
    exact ⟨h4.1, h4.2.symm⟩
theorem merge_nohalf {l : List (Int × Int)} {P S : Nat} (hS : S < 32) (hP : P < 5) (hh : Sg.has (S : Int) (P : Int) = false) (h : ¬ (hasP (rsd l (S + 2 ^ P)) P = false ∧ rsd l S = rsd l (S + 2 ^ P))) : mergeR l P = false := by
  obtain ⟨h1, h2, h3⟩ := bit_off S hS P hP hh
  cases e : hasP (rsd l (S + 2 ^ P)) P with
  | true => exact mergeR_not h1 (fun hx => by rw [e] at hx; cases hx.1)
  | false => exact mergeR_not hS (fun hx => h ⟨e, by rw [h2] at hx; exact hx.2⟩)
end Go.Proofs.YtijiohdddfdjfaaDoor
