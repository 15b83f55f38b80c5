/- The model's cursor: what it hands out. -/
/- The model's cursor: raw numbers and leaves. -/
/- The model's cursor: levels. -/
import Derived.Test.YtfmhmnpmdjpmeaaDoorJoin
import Derived.Maps.Range

namespace Go.Proofs.YtfmhmnpmdjpmeaaDoor
open Go.RowKit

/-- a slice of bytes below block B -/
def BytR (w : World) (B : Nat) (A : Option Addr) (n : Nat) : Prop :=
  0 < n → ∃ b off, A = some ⟨b, off, none⟩ ∧ b < B ∧ ∀ k, k < n → ∃ x : Nat, x < 256 ∧ w.cell? ⟨b, off + k, none⟩ = some (.int .u8 x)
theorem BytR.below {w w' : World} {B : Nat} {A : Option Addr} {n : Nat} (h : BytR w B A n) (hb : Below B w w') : BytR w' B A n := fun h0 => by
  obtain ⟨b, off, rfl, hB, hc⟩ := h h0
  refine ⟨b, off, rfl, hB, fun k hk => ?_⟩
  obtain ⟨x, hx, c⟩ := hc k hk
  exact ⟨x, hx, (hb.cell (p := ⟨b, off + k, none⟩) hB).trans c⟩

/-- the cursor at block bc over those bytes, its place at most K -/
def Cur (w : World) (bc : Nat) (A : Option Addr) (n c K : Nat) : Prop :=
  BytR w bc A n ∧ ∃ p s : Nat, Blk w bc 139 #[.slice A n c, .int .i64 p, .int .i64 s] ∧ p ≤ K ∧ s ≤ 70000
theorem Cur.lt {w : World} {bc : Nat} {A : Option Addr} {n c K : Nat} (h : Cur w bc A n c K) : bc < w.heap.size := by obtain ⟨_, p, s, hb, _⟩ := h; exact hb.lt
theorem Cur.more {w : World} {bc : Nat} {A : Option Addr} {n c K K' : Nat} (h : Cur w bc A n c K) (hK : K ≤ K') : Cur w bc A n c K' := by
  obtain ⟨h1, p, s, hb, hp, hs⟩ := h
  exact ⟨h1, p, s, hb, by omega, hs⟩
/-- nothing but the cursor's block has turned -/
abbrev Kp (bc : Nat) (w w' : World) : Prop := w.grownBy w' (some bc)
theorem Kp.refl (bc : Nat) (w : World) : Kp bc w w := ⟨rfl, rfl, rfl, Nat.le_refl _, fun _ _ _ => rfl⟩
theorem Kp.trans {bc : Nat} {a b c : World} (h : Kp bc a b) (k : Kp bc b c) : Kp bc a c :=
  ⟨k.os.trans h.os, k.tape.trans h.tape, k.output.trans h.output, Nat.le_trans h.size k.size, fun i hi hn => (k.block i (Nat.lt_of_lt_of_le hi h.size) hn).trans (h.block i hi hn)⟩
theorem Kp.of_below {bc : Nat} {a b : World} (h : Below a.heap.size a b) : Kp bc a b := ⟨h.os, h.tape, h.output, h.size, fun i hi _ => h.block i hi⟩
theorem Kp.below {bc B : Nat} {w0 a b : World} (h0 : Below B w0 a) (h : Kp bc a b) (hB : B ≤ bc) (hz : B ≤ a.heap.size) : Below B w0 b := h0.grown h hz (fun k hk => by injection hk with hk; omega)
theorem Kp.own {bc : Nat} {a b : World} {base : Nat} {e : TypeId} {size n : Nat} {v : Value} {xs : List Value} (h : a.ownsRow base e size v n xs) (hk : Kp bc a b) (hb : bc < base) : b.ownsRow base e size v n xs :=
  h.kept hk (by
    cases hv : v.ownBlock with
    | none => exact .inl rfl
    | some g =>
      refine .inr (fun he => ?_)
      have := (h.lt g hv).1
      injection he with he
      omega)
theorem Cur.below {w w' : World} {bc : Nat} {A : Option Addr} {n c K : Nat} (h : Cur w bc A n c K) (hb : Below w.heap.size w w') : Cur w' bc A n c K := by
  have hlt := h.lt
  obtain ⟨h1, p, s, hblk, hp, hs⟩ := h
  exact ⟨h1.below (hb.mono (by omega)), p, s, hblk.below hb hlt, hp, hs⟩

theorem Kp.drew {bc : Nat} {a b : World} (h : Kp bc a b) : Kp bc a b.drew := ⟨h.os, h.tape, h.output, h.size, h.block⟩
theorem Kp.put (w : World) (bc i : Nat) (u : Value) : Kp bc w (w.setCell ⟨bc, i, none⟩ u) :=
  ⟨rfl, rfl, rfl, by rw [World.size_setCell]; exact Nat.le_refl _, fun k _ hn => Below.heap_setCell w ⟨bc, i, none⟩ u k (fun e => hn (by rw [e]))⟩
theorem cur_put {w : World} {bc : Nat} {A : Option Addr} {n c K p s : Nat} (hby : BytR w bc A n) (hblk : Blk w bc 139 #[.slice A n c, .int .i64 p, .int .i64 s]) (hp : p ≤ K) (hs : s ≤ 70000) :
    Cur (w.setCell ⟨bc, 1, none⟩ (.int .i64 ((p : Int) + 1))) bc A n c (K + 1) := by
  refine ⟨hby.below ((Below.refl _ _).setCell (p := ⟨bc, 1, none⟩) (Nat.le_refl _) _), p + 1, s, ?_, by omega, hs⟩
  have h := hblk.put 1 (.int .i64 ((p : Int) + 1))
  exact h
theorem cur_put2 {w : World} {bc : Nat} {A : Option Addr} {n c K p s s' : Nat} (hby : BytR w bc A n) (hblk : Blk w bc 139 #[.slice A n c, .int .i64 p, .int .i64 s]) (hp : p ≤ K) (hs : s' ≤ 70000) :
    Cur ((w.setCell ⟨bc, 2, none⟩ (.int .i64 (s' : Int))).setCell ⟨bc, 1, none⟩ (.int .i64 ((p : Int) + 1))) bc A n c (K + 1) := by
  refine cur_put (s := s') (hby.below ((Below.refl _ _).setCell (p := ⟨bc, 2, none⟩) (Nat.le_refl _) _)) ?_ hp hs
  have h := hblk.put 2 (.int .i64 (s' : Int))
  exact h

set_option maxRecDepth 100000 in
set_option maxHeartbeats 2000000 in
theorem pick_any (w : World) (bc : Nat) (A : Option Addr) (n c K m : Nat) (hc : Cur w bc A n c K) (hK : K ≤ 1000000) (hm : m ≤ 1000000) (hn : n ≤ 1048576) :
    Calls Tryd.prog 85 #[.pointer (some ⟨bc, 0, none⟩), .int .i64 m] w fun e w' => ∃ r : Nat, e = .returned (.int .i64 r) ∧ (r = 0 ∨ r < m) ∧ Cur w' bc A n c (K + 1) ∧ Kp bc w w' := by
  by_cases hm2 : m < 2
  · go_enter Tryd.func85, Tryd.ntmps85
    go_wp2
    go_ret
    exact ⟨0, rfl, .inl rfl, hc.more (by omega), Kp.refl _ _⟩
  · obtain ⟨hby, p, s, hblk, hp, hs⟩ := hc
    have x0 : w.cell? ⟨bc, 0, none⟩ = some (.slice A n c) := hblk.cell 0
    have x1 : w.cell? ⟨bc, 1, none⟩ = some (.int .i64 p) := hblk.cell 1
    have x2 : w.cell? ⟨bc, 2, none⟩ = some (.int .i64 s) := hblk.cell 2
    have f1 := hblk.thawed 1
    have f2 := hblk.thawed 2
    have hlt := hblk.lt
    have hm2' : ¬ ((m : Int) < 2) := by omega
    by_cases hat : p < n
    · obtain ⟨b, off, rfl, hb, hcs⟩ := hby (by omega)
      obtain ⟨x, hx, y1⟩ := hcs p hat
      have HB := Lib.hid hblk
      have HY := Lib.hid hby
      clear hblk hcs hby
      go_enter Tryd.func85, Tryd.ntmps85
      go_wp2_with fail
      go_region
      go_wp2_with fail
      go_region
      go_wp2
      go_ret
      exact ⟨x % m, ret_int (by simp), .inr (Nat.mod_lt _ (by omega)), cur_put HY.out HB.out hp hs, (Kp.put _ _ _ _).drew.drew⟩
    · obtain ⟨s', hs'⟩ : ∃ s' : Nat, (s * 1103 + 12345) % 65521 = s' := ⟨_, rfl⟩
      have hsb : s' ≤ 65520 := by omega
      have hsi : ((s : Int) * 1103 + 12345) % 65521 = (s' : Int) := by omega
      by_cases hn0 : n = 0
      · subst hn0
        have HB := Lib.hid hblk
        have HY := Lib.hid hby
        clear hblk hby hs'
        go_enter Tryd.func85, Tryd.ntmps85
        go_wp2_with fail
        go_region
        go_wp2
        go_ret
        exact ⟨0 % m, ret_int (by simp), .inr (Nat.mod_lt _ (by omega)), cur_put2 HY.out HB.out hp (by omega), ((Kp.put _ _ _ _).trans (Kp.put _ _ _ _)).drew⟩
      · obtain ⟨b, off, rfl, hb, hcs⟩ := hby (by omega)
        have hpm : p % n < n := Nat.mod_lt _ (by omega)
        obtain ⟨x, hx, y1⟩ := hcs (p % n) hpm
        have hcast : (p : Int) % (n : Int) = ((p % n : Nat) : Int) := by simp
        generalize p % n = q at hpm y1 hcast
        have HB := Lib.hid hblk
        have HY := Lib.hid hby
        clear hblk hcs hby hs'
        go_enter Tryd.func85, Tryd.ntmps85
        go_wp2_with fail
        go_region
        go_wp2_with fail
        go_region
        go_wp2
        go_ret
        exact ⟨(s' / 7 + x) % m, ret_int (by simp), .inr (Nat.mod_lt _ (by omega)), cur_put2 HY.out HB.out hp (by omega), ((Kp.put _ _ _ _).trans (Kp.put _ _ _ _)).drew.drew⟩

set_option maxHeartbeats 800000 in
theorem once_any (w : World) (bc : Nat) (A : Option Addr) (n c K m : Nat) (hc : Cur w bc A n c K) (hK : K ≤ 1000000) (hm : m ≤ 1000000) (hn : n ≤ 1048576) :
    Calls Tryd.prog 108 #[.pointer (some ⟨bc, 0, none⟩), .int .i64 m] w fun e w' => ∃ r : Bool, e = .returned (.bool r) ∧ Cur w' bc A n c (K + 1) ∧ Kp bc w w' := by
  go_enter Tryd.func108, Tryd.ntmps108
  go_wp2_with fail
  refine (pick_any w bc A n c K m hc hK hm hn).mono ?_
  rintro e w1 ⟨r, rfl, _, hc1, hk1⟩
  go_wp2
  go_ret
  exact ⟨_, rfl, hc1, hk1⟩
end Go.Proofs.YtfmhmnpmdjpmeaaDoor

namespace Go.Proofs.YtfmhmnpmdjpmeaaDoor
open Go.RowKit

theorem BytR.grown {w w' : World} {B : Nat} {A : Option Addr} {n : Nat} {row : Option Nat} (h : BytR w B A n) (hg : w.grownBy w' row) (hB : B ≤ w.heap.size) (hr : ∀ k, row = some k → B ≤ k) : BytR w' B A n :=
  h.below ((Below.refl B w).grown hg hB hr)
theorem Cur.grown {w w' : World} {bc : Nat} {A : Option Addr} {n c K : Nat} {row : Option Nat} (h : Cur w bc A n c K) (hg : w.grownBy w' row) (hr : ∀ k, row = some k → bc < k) : Cur w' bc A n c K := by
  have hlt := h.lt
  obtain ⟨h1, p, s, hblk, hp, hs⟩ := h
  exact ⟨h1.grown hg (by omega) (fun k hk => by have := hr k hk; omega), p, s, hblk.grown hg (fun he => by have := hr bc he.symm; omega), hp, hs⟩
theorem Cur.alloc {w : World} {bc : Nat} {A : Option Addr} {n c K : Nat} (h : Cur w bc A n c K) (o : Obj) : Cur (w.alloc o) bc A n c K := h.below ((Below.refl _ _).alloc (Nat.le_refl _) o)
theorem Kp.alloc {bc : Nat} {a b : World} (h : Kp bc a b) (o : Obj) : Kp bc a (b.alloc o) := h.trans (Kp.of_below ((Below.refl _ _).alloc (Nat.le_refl _) o))
theorem Kp.blk {bc g : Nat} {a b : World} {t : TypeId} {cs : Array Value} (hb : Blk a g t cs) (h : Kp bc a b) (hne : g ≠ bc) : Blk b g t cs := hb.grown h (fun he => by injection he with he; exact hne he)
theorem Kp.more {bc : Nat} {a b c : World} {row : Option Nat} (h : Kp bc a b) (k : b.grownBy c row) (hr : ∀ j, row = some j → a.heap.size ≤ j) : Kp bc a c := h.andThen k (fun j hj => .inl (hr j hj))

set_option maxRecDepth 100000 in
set_option maxHeartbeats 2000000 in
theorem raw_any (w : World) (bc : Nat) (A : Option Addr) (n c K : Nat) (hc : Cur w bc A n c K) (hK : K ≤ 900000) (hn : n ≤ 1048576) :
    Calls Tryd.prog 107 #[.pointer (some ⟨bc, 0, none⟩)] w fun e w' => ∃ r : Int, e = .returned (.int .i64 r) ∧ Cur w' bc A n c (K + 2) ∧ Kp bc w w' := by
  go_enter Tryd.func107, Tryd.ntmps107
  go_wp2_with fail
  refine (pick_any w bc A n c K 8 hc (by omega) (by omega) hn).mono ?_
  rintro e w1 ⟨r, rfl, hr, hc1, hk1⟩
  by_cases r0 : r = 0
  · subst r0
    go_wp2_with fail
    refine (pick_any w1 bc A n c (K + 1) 256 hc1 (by omega) (by omega) hn).mono ?_
    rintro e w2 ⟨x, rfl, hx, hc2, hk2⟩
    go_wp2
    go_ret
    exact ⟨_, rfl, hc2, hk1.trans hk2⟩
  · by_cases r1 : r = 1
    · subst r1
      go_wp2_with fail
      refine (pick_any _ bc A n c (K + 1) 8 (hc1.alloc _) (by omega) (by omega) hn).mono ?_
      rintro e w2 ⟨x, rfl, hx, hc2, hk2⟩
      have hbk := Kp.blk (Blk.made w1 _ _) hk2 (by have := hc1.lt; omega)
      obtain ⟨v, hv⟩ : ∃ v, w2.cell? ⟨w1.heap.size, x, none⟩ = some (.int .i64 v) := by
        have hx8 : x = 0 ∨ x = 1 ∨ x = 2 ∨ x = 3 ∨ x = 4 ∨ x = 5 ∨ x = 6 ∨ x = 7 := by omega
        rcases hx8 with rfl | rfl | rfl | rfl | rfl | rfl | rfl | rfl <;> exact ⟨_, hbk.cell _⟩
      have hx8 : x < 8 := by omega
      have HK := Lib.hid (hk1.trans ((Kp.of_below ((Below.refl _ _).alloc (Nat.le_refl _) _)).trans hk2))
      clear hbk hk2
      go_wp2
      go_ret
      exact ⟨_, rfl, hc2, HK.out⟩
    · have e0 : ¬ ((r : Int) = 0) := by omega
      have e1 : ¬ ((r : Int) = 1) := by omega
      go_wp2_with fail
      refine (pick_any w1 bc A n c (K + 1) 14 hc1 (by omega) (by omega) hn).mono ?_
      rintro e w2 ⟨x, rfl, hx, hc2, hk2⟩
      go_wp2
      go_ret
      exact ⟨_, rfl, hc2, hk1.trans hk2⟩

/-- what a draw of tokens gives: a row of its own that is not empty -/
def Drew (bc : Nat) (A : Option Addr) (n c K : Nat) (w : World) (e : Ending) (w' : World) : Prop :=
  ∃ g cap l, e = .returned (.slice (some ⟨g, 0, none⟩) l.length cap) ∧ 1 ≤ l.length ∧ l.length ≤ 24 ∧ OwnT w' w.heap.size (some ⟨g, 0, none⟩) l.length cap l ∧ Cur w' bc A n c K ∧ Kp bc w w'

theorem own_tok (w : World) (a b : Int) : OwnT (w.alloc (.cells #[.int .i64 a, .int .i64 b] 70)) w.heap.size (some ⟨w.heap.size, 0, none⟩) 1 1 [(a, b)] :=
  ⟨rfl, .inr ⟨w.heap.size, 1, _, rfl, Nat.le_refl _, Blk.made w 70 _, Nat.le_refl _, by simp [maxLen], rfl, rfl⟩⟩

set_option maxRecDepth 100000 in
set_option maxHeartbeats 2000000 in
theorem leaf_any (w : World) (bc : Nat) (A : Option Addr) (n c K : Nat) (hc : Cur w bc A n c K) (hK : K ≤ 900000) (hn : n ≤ 1048576) :
    Calls Tryd.prog 120 #[.pointer (some ⟨bc, 0, none⟩)] w (Drew bc A n c (K + 4) w) := by
  obtain ⟨i0, hi, hz0, hz1, hz2⟩ := info_parts info_tok
  have hlt := hc.lt
  go_enter Tryd.func120, Tryd.ntmps120
  go_wp2_with fail
  refine (pick_any w bc A n c K 3 hc (by omega) (by omega) hn).mono ?_
  rintro e w1 ⟨r, rfl, hr, hc1, hk1⟩
  have s1 := hk1.size
  go_wp2_with fail
  refine (once_any _ bc A n c (K + 1) 4 (hc1.alloc _) (by omega) (by omega) hn).mono ?_
  rintro e w2 ⟨b, rfl, hc2, hk2⟩
  have s2 := hk2.size
  simp only [World.size_alloc] at s2
  have ho2 := Kp.own (own_base (base' := w.heap.size) (own_tok w1 4 r) s1) hk2 (by omega)
  have hk12 := (hk1.alloc _).trans hk2
  clear hk1 hk2
  cases b with
  | true =>
    have hoX := Lib.hid (own_base (base' := w.heap.size) (own_tok w2 0 0) (by omega))
    have hcX := hc2.alloc (.cells #[.int .i64 0, .int .i64 0] 70)
    have hkX := hk12.alloc (.cells #[.int .i64 0, .int .i64 0] 70)
    clear ho2 hc2 hk12
    go_wp2_with fail
    refine (pick_any _ bc A n c (K + 2) 3 hcX (by omega) (by omega) hn).mono ?_
    rintro e w3 ⟨x, rfl, hx, hc3, hk3⟩
    have hk03 := hkX.trans hk3
    have ho3 := Lib.hid (Kp.own hoX.out hk3 (by omega))
    clear hoX hcX hkX hk3
    go_wp2_with fail
    refine (pick_any w3 bc A n c (K + 3) 2 hc3 (by omega) (by omega) hn).mono ?_
    rintro e w4 ⟨y, rfl, hy, hc4, hk4⟩
    have hk04 := hk03.trans hk4
    have ho4 := Lib.hid (Kp.own ho3.out hk4 (by omega))
    have s4 := hk04.size
    clear ho3 hc3 hk03 hk4
    obtain ⟨q, hq⟩ : ∃ q, x * y = q := ⟨_, rfl⟩
    have hq2 : q ≤ 2 := by
      rcases (show y = 0 ∨ y = 1 by omega) with rfl | rfl
      · omega
      · omega
    have hmul : (x : Int) * (y : Int) = (q : Int) := by rw [← hq]; simp
    clear hq
    go_wp2
    go_loopw [3, 4] (fun v i wr => ∃ (j g cap : Nat) (l : List (Int × Int)), i = .int .i64 j ∧ v = .slice (some ⟨g, 0, none⟩) l.length cap ∧ 1 ≤ l.length ∧ l.length + j ≤ 3 ∧ OwnT wr w.heap.size (some ⟨g, 0, none⟩) l.length cap l ∧ Cur wr bc A n c (K + 4) ∧ Kp bc w wr) (fun _ i _ => (intOf i).toNat)
    case atStart => exact ⟨q, _, 1, [_], rfl, rfl, Nat.le_refl _, (by simp; omega), ho4.out, hc4, hk04⟩
    case round =>
      obtain ⟨j, g, cap, l, rfl, rfl, hl1, hlj, hown, hcr, hkr⟩ := hrel
      have hszr := hkr.size
      by_cases hj : 0 < j
      · have hpos : (0 : Int) < (j : Int) := by omega
        obtain ⟨L, hL⟩ : ∃ L, l.length = L := ⟨_, rfl⟩
        rw [hL] at hown hl1 hlj ⊢
        go_wp2_with (at_builtin; refine wpList_append_own _ rfl (.tmp 22) (.tmp 24) 30 rfl w.heap.size 70 i0 (.agg #[.int .i64 0, .int .i64 0]) 2 16 Tryd.underlying30 hi hz0 hz1 hz2 rfl (by decide) (.slice (some ⟨g, 0, none⟩) L cap) L (tokCells l) rfl (hown.alloc _) ⟨wr.heap.size, 0, none⟩ 1 1 (tokCells [(1, 0)]) rfl rfl (Blk.tokA2 _ _ _) (tokCells_one _) (by unfold maxLen; omega) (by omega) (by simp; omega) ?_; intro v' w5 hown' hgrow hnil)
        obtain ⟨g2, cap2, rfl⟩ : ∃ g' cap', v' = .slice (some ⟨g', 0, none⟩) (L + 1) cap' := by
          rcases hown'.2 with ⟨h0, _⟩ | ⟨g', cap', _, h0, _⟩
          · have := (hnil.1 h0).1
            cases this
          · exact ⟨g', cap', h0⟩
        have HLn : Hid ((l ++ [((1 : Int), (0 : Int))]).length = L + 1) := by show _ = _; simp [hL]
        have HW : Hid (OwnT w5 w.heap.size (some ⟨g2, 0, none⟩) (l ++ [(1, 0)]).length cap2 (l ++ [(1, 0)])) := by
          show OwnT _ _ _ _ _ _
          rw [HLn.out]
          unfold OwnT
          rw [tokCells_append]
          exact hown'
        have HC := Lib.hid ((hcr.alloc _).grown hgrow (fun k h => by have := (hown.lt k h).1; omega))
        have HK := Lib.hid ((hkr.alloc _).more hgrow (fun k h => (hown.lt k h).1))
        clear hown hown' hgrow hnil hcr hkr hL
        go_wp2
        go_roundw
        case rel => exact ⟨j - 1, g2, cap2, l ++ [(1, 0)], by go_num, by rw [HLn.out], by rw [HLn.out]; omega, by rw [HLn.out]; omega, HW.out, HC.out, HK.out⟩
        case measure => simp [intOf]; omega
      · obtain rfl : j = 0 := by omega
        go_wp2
        go_ret
        exact ⟨g, cap, l, rfl, hl1, by omega, hown, hcr, hkr⟩
  | false =>
    have hoX := Lib.hid (ho2)
    have hcX := hc2
    have hkX := hk12
    clear ho2 hc2 hk12
    go_wp2_with fail
    refine (pick_any _ bc A n c (K + 2) 3 hcX (by omega) (by omega) hn).mono ?_
    rintro e w3 ⟨x, rfl, hx, hc3, hk3⟩
    have hk03 := hkX.trans hk3
    have ho3 := Lib.hid (Kp.own hoX.out hk3 (by omega))
    clear hoX hcX hkX hk3
    go_wp2_with fail
    refine (pick_any w3 bc A n c (K + 3) 2 hc3 (by omega) (by omega) hn).mono ?_
    rintro e w4 ⟨y, rfl, hy, hc4, hk4⟩
    have hk04 := hk03.trans hk4
    have ho4 := Lib.hid (Kp.own ho3.out hk4 (by omega))
    have s4 := hk04.size
    clear ho3 hc3 hk03 hk4
    obtain ⟨q, hq⟩ : ∃ q, x * y = q := ⟨_, rfl⟩
    have hq2 : q ≤ 2 := by
      rcases (show y = 0 ∨ y = 1 by omega) with rfl | rfl
      · omega
      · omega
    have hmul : (x : Int) * (y : Int) = (q : Int) := by rw [← hq]; simp
    clear hq
    go_wp2
    go_loopw [3, 4] (fun v i wr => ∃ (j g cap : Nat) (l : List (Int × Int)), i = .int .i64 j ∧ v = .slice (some ⟨g, 0, none⟩) l.length cap ∧ 1 ≤ l.length ∧ l.length + j ≤ 3 ∧ OwnT wr w.heap.size (some ⟨g, 0, none⟩) l.length cap l ∧ Cur wr bc A n c (K + 4) ∧ Kp bc w wr) (fun _ i _ => (intOf i).toNat)
    case atStart => exact ⟨q, _, 1, [_], rfl, rfl, Nat.le_refl _, (by simp; omega), ho4.out, hc4, hk04⟩
    case round =>
      obtain ⟨j, g, cap, l, rfl, rfl, hl1, hlj, hown, hcr, hkr⟩ := hrel
      have hszr := hkr.size
      by_cases hj : 0 < j
      · have hpos : (0 : Int) < (j : Int) := by omega
        obtain ⟨L, hL⟩ : ∃ L, l.length = L := ⟨_, rfl⟩
        rw [hL] at hown hl1 hlj ⊢
        go_wp2_with (at_builtin; refine wpList_append_own _ rfl (.tmp 22) (.tmp 24) 30 rfl w.heap.size 70 i0 (.agg #[.int .i64 0, .int .i64 0]) 2 16 Tryd.underlying30 hi hz0 hz1 hz2 rfl (by decide) (.slice (some ⟨g, 0, none⟩) L cap) L (tokCells l) rfl (hown.alloc _) ⟨wr.heap.size, 0, none⟩ 1 1 (tokCells [(1, 0)]) rfl rfl (Blk.tokA2 _ _ _) (tokCells_one _) (by unfold maxLen; omega) (by omega) (by simp; omega) ?_; intro v' w5 hown' hgrow hnil)
        obtain ⟨g2, cap2, rfl⟩ : ∃ g' cap', v' = .slice (some ⟨g', 0, none⟩) (L + 1) cap' := by
          rcases hown'.2 with ⟨h0, _⟩ | ⟨g', cap', _, h0, _⟩
          · have := (hnil.1 h0).1
            cases this
          · exact ⟨g', cap', h0⟩
        have HLn : Hid ((l ++ [((1 : Int), (0 : Int))]).length = L + 1) := by show _ = _; simp [hL]
        have HW : Hid (OwnT w5 w.heap.size (some ⟨g2, 0, none⟩) (l ++ [(1, 0)]).length cap2 (l ++ [(1, 0)])) := by
          show OwnT _ _ _ _ _ _
          rw [HLn.out]
          unfold OwnT
          rw [tokCells_append]
          exact hown'
        have HC := Lib.hid ((hcr.alloc _).grown hgrow (fun k h => by have := (hown.lt k h).1; omega))
        have HK := Lib.hid ((hkr.alloc _).more hgrow (fun k h => (hown.lt k h).1))
        clear hown hown' hgrow hnil hcr hkr hL
        go_wp2
        go_roundw
        case rel => exact ⟨j - 1, g2, cap2, l ++ [(1, 0)], by go_num, by rw [HLn.out], by rw [HLn.out]; omega, by rw [HLn.out]; omega, HW.out, HC.out, HK.out⟩
        case measure => simp [intOf]; omega
      · obtain rfl : j = 0 := by omega
        go_wp2
        go_ret
        exact ⟨g, cap, l, rfl, hl1, by omega, hown, hcr, hkr⟩
end Go.Proofs.YtfmhmnpmdjpmeaaDoor

namespace Go.Proofs.YtfmhmnpmdjpmeaaDoor
open Go.RowKit

def cost : Nat → Nat
  | 0 => 4
  | d + 1 => 8 + 2 * cost d

theorem Drew.more {bc : Nat} {A : Option Addr} {n c K K' : Nat} {w0 w : World} {e : Ending} {w' : World} (h : Drew bc A n c K w e w') (hK : K ≤ K') (h0 : Kp bc w0 w) : Drew bc A n c K' w0 e w' := by
  obtain ⟨g, cap, l, he, h1, h2, ho, hc, hk⟩ := h
  exact ⟨g, cap, l, he, h1, h2, own_base ho h0.size, hc.more hK, h0.trans hk⟩
theorem own_addr {w : World} {base : Nat} {A : Option Addr} {n c : Nat} {l : List (Int × Int)} (h : OwnT w base A n c l) (hn : 1 ≤ n) : ∃ g, A = some ⟨g, 0, none⟩ := by
  rcases h.2 with ⟨_, h0⟩ | ⟨g, cap, _, h0, _⟩
  · omega
  · injection h0 with h0
    exact ⟨g, h0⟩
theorem joinR_some {op : Int} {a b l : List (Int × Int)} (h : joinR op a b = some l) : 1 ≤ l.length ∧ l.length ≤ 24 ∧ Lv.levelOk l = true := by
  unfold joinR at h
  split at h
  · unfold ifR at h
    split at h
    · rename_i hk
      injection h with h
      rw [← h]
      exact ⟨(ok_len hk rfl).1, (ok_len hk rfl).2, hk⟩
    · cases h
  · cases h
theorem succR_some {a l : List (Int × Int)} {k : Int} (h : succR a k = some l) (ha : 1 ≤ a.length) : 1 ≤ l.length ∧ l.length ≤ 24 := by
  unfold succR at h
  split at h
  · rename_i hk
    injection h with h
    rw [← h]
    simp [sxs]
    omega
  · cases h

set_option maxRecDepth 100000 in
set_option maxHeartbeats 4000000 in
theorem level_any (bc : Nat) (A : Option Addr) (n c : Nat) (hn : n ≤ 1048576) : ∀ (d : Nat) (w : World) (K : Nat), d ≤ 10 → Cur w bc A n c K → K + cost d ≤ 800000 →
    Calls Tryd.prog 106 #[.pointer (some ⟨bc, 0, none⟩), .int .i64 (d : Int)] w (Drew bc A n c (K + cost d) w)
  | 0, w, K, _, hc, hK => by
    simp only [cost] at hK
    show Calls Tryd.prog 106 #[.pointer (some ⟨bc, 0, none⟩), .int .i64 0] w (Drew bc A n c (K + 4) w)
    go_enter Tryd.func106, Tryd.ntmps106
    go_wp2_with fail
    refine (leaf_any w bc A n c K hc (by omega) hn).mono ?_
    rintro e w1 ⟨g, cap, l, rfl, h1, h2, ho, hc1, hk1⟩
    go_wp2
    go_ret
    exact ⟨g, cap, l, rfl, h1, h2, ho, hc1, hk1⟩
  | d + 1, w, K, hd, hc, hK => by
    have ih := level_any bc A n c hn d
    have hcost : cost (d + 1) = 8 + 2 * cost d := rfl
    rw [hcost] at hK ⊢
    obtain ⟨C, hC⟩ : ∃ C, cost d = C := ⟨_, rfl⟩
    rw [hC] at hK ih ⊢
    obtain ⟨x, hx⟩ : ∃ x : Int, ((d + 1 : Nat) : Int) = x := ⟨_, rfl⟩
    rw [hx]
    have hx0 : ¬ (x = 0) := by omega
    have hx1 : x - 1 = (d : Int) := by omega
    have hxb : x ≤ 11 := by omega
    have hxp : 1 ≤ x := by omega
    have hlt := hc.lt
    clear hx hC hcost
    go_enter Tryd.func106, Tryd.ntmps106
    go_wp2_with fail
    refine (once_any w bc A n c K 3 hc (by omega) (by omega) hn).mono ?_
    rintro e w1 ⟨b, rfl, hc1, hk1⟩
    cases b with
    | true =>
      go_wp2_with fail
      refine (leaf_any w1 bc A n c (K + 1) hc1 (by omega) hn).mono ?_
      rintro e w2 hD
      have hD' := hD.more (K' := K + (8 + 2 * C)) (by omega) hk1
      obtain ⟨g, cap, l, rfl, h1, h2, ho, hc2, hk2⟩ := hD'
      clear hD
      go_wp2
      go_ret
      exact ⟨g, cap, l, rfl, h1, h2, ho, hc2, hk2⟩
    | false =>
      go_wp2_with fail
      refine (pick_any w1 bc A n c (K + 1) 2 hc1 (by omega) (by omega) hn).mono ?_
      rintro e w2 ⟨r, rfl, hr, hc2, hk2⟩
      have hk02 := hk1.trans hk2
      clear hk1 hk2 hc1
      go_wp2_with fail
      refine (ih w2 (K + 2) (by omega) hc2 (by omega)).mono ?_
      rintro e w3 ⟨g1, cap1, l1, rfl, h11, h12, ho1, hc3, hk3⟩
      have hk03 := hk02.trans hk3
      have ho1' := Lib.hid (own_base ho1 hk02.size)
      clear hk02 hk3 hc2 ho1
      go_wp2_with fail
      refine (ih w3 (K + 2 + C) (by omega) hc3 (by omega)).mono ?_
      rintro e w4 ⟨g2, cap2, l2, rfl, h21, h22, ho2, hc4, hk4⟩
      have hk04 := hk03.trans hk4
      have ho14 := Lib.hid (Kp.own ho1'.out hk4 (by omega))
      have ho24 := Lib.hid ho2
      clear hk03 hk4 hc3 ho1' ho2 ih
      obtain ⟨n1, hn1⟩ : ∃ n1, l1.length = n1 := ⟨_, rfl⟩
      obtain ⟨n2, hn2⟩ : ∃ n2, l2.length = n2 := ⟨_, rfl⟩
      rw [hn1] at h11 h12 ho14 ⊢
      rw [hn2] at h21 h22 ho24 ⊢
      clear hn1 hn2
      go_wp2_with fail
      refine (specJoin_any w4 w4.heap.size _ _ n1 cap1 l1 _ n2 cap2 l2 (Nat.le_refl _) (OwnT.reads ho14.out) (by omega) (OwnT.reads ho24.out) (by omega)).mono ?_
      rintro e w5 ⟨A5, c5, rfl, ho5, hb5⟩
      have hk05 := hk04.trans (Kp.of_below hb5)
      have hc5 := hc4.below hb5
      have s4 := hk04.size
      clear ho14 ho24 hk04 hc4
      cases hJ : joinR (2 + (r : Int)) l1 l2 with
      | none =>
        rw [hJ] at ho5
        clear hb5 ho5 hJ
        simp only [Option.getD_none, Option.isSome_none, List.length_nil]
        go_wp2_with fail
        refine (leaf_any w5 bc A n c _ hc5 (by omega) hn).mono ?_
        rintro e w6 hD
        have hD' := hD.more (K' := K + (8 + 2 * C)) (by omega) hk05
        obtain ⟨g, cap, l, rfl, h1, h2, ho, hc6, hk6⟩ := hD'
        clear hD
        go_wp2
        go_ret
        exact ⟨g, cap, l, rfl, h1, h2, ho, hc6, hk6⟩
      | some l =>
        obtain ⟨hl1, hl24, hlk⟩ := joinR_some hJ
        rw [hJ] at ho5
        simp only [Option.getD_some] at ho5
        simp only [Option.getD_some, Option.isSome_some]
        obtain ⟨g5, rfl⟩ := own_addr ho5 hl1
        have ho5' := Lib.hid (own_base (base' := w.heap.size) ho5 s4)
        have hs5 := hb5.size
        clear ho5 hb5 hJ
        go_wp2_with fail
        refine (once_any w5 bc A n c _ 3 hc5 (by omega) (by omega) hn).mono ?_
        rintro e w6 ⟨b6, rfl, hc6, hk6⟩
        have hk06 := hk05.trans hk6
        have ho6 := Lib.hid (Kp.own ho5'.out hk6 (by omega))
        clear hk05 hk6 hc5 ho5'
        cases b6 with
        | false =>
          go_wp2
          go_ret
          exact ⟨g5, c5, l, rfl, hl1, hl24, ho6.out, hc6.more (by omega), hk06⟩
        | true =>
          go_wp2_with fail
          refine (pick_any w6 bc A n c _ 2 hc6 (by omega) (by omega) hn).mono ?_
          rintro e w7 ⟨r7, rfl, hr7, hc7, hk7⟩
          have hk07 := hk06.trans hk7
          have ho7 := Lib.hid (Kp.own ho6.out hk7 (by omega))
          have hs7 := hk07.size
          clear hk06 hk7 hc6 ho6
          obtain ⟨L, hL⟩ : ∃ L, l.length = L := ⟨_, rfl⟩
          rw [hL] at ho7 hl1 hl24 ⊢
          go_wp2_with fail
          refine (specSucc_any w7 w7.heap.size _ L c5 l _ (Nat.le_refl _) (OwnT.reads ho7.out) (by omega)).mono ?_
          rintro e w8 ⟨A8, c8, rfl, ho8, hb8⟩
          have hk08 := hk07.trans (Kp.of_below hb8)
          have hc8 := hc7.below hb8
          have ho78 := Lib.hid (own_below' ho7.out hb8)
          clear ho7 hk07 hc7 hb8
          cases hS : succR l (1 + (r7 : Int)) with
          | none =>
            rw [hS] at ho8
            simp only [Option.getD_none, Option.isSome_none, List.length_nil]
            clear ho8 hS
            go_wp2
            go_ret
            exact ⟨g5, c5, l, by rw [hL]; rfl, by omega, by omega, by rw [hL]; exact ho78.out, hc8.more (by omega), hk08⟩
          | some l8 =>
            obtain ⟨h81, h824⟩ := succR_some hS (by omega)
            rw [hS] at ho8
            simp only [Option.getD_some] at ho8
            simp only [Option.getD_some, Option.isSome_some]
            obtain ⟨g8, rfl⟩ := own_addr ho8 h81
            have HO8 := Lib.hid (own_base (base' := w.heap.size) ho8 hs7)
            clear ho8 hS
            go_wp2
            go_ret
            exact ⟨g8, c8, l8, rfl, h81, h824, HO8.out, hc8.more (by omega), hk08⟩
end Go.Proofs.YtfmhmnpmdjpmeaaDoor
