/- The model's cursor: what it hands out. -/
/- The model's cursor: raw numbers and leaves. -/
import Derived.Test.YtgebjnoicgmdoaaGreatDoorJoin
import Derived.Maps.Range

namespace Go.Proofs.YtgebjnoicgmdoaaGreatDoor
open Go.RowKit

/-- a slice of bytes below block B -/
def BytR (w : World) (B : Nat) (A : Option Addr) (n : Nat) : Prop :=
  0 < n → ∃ b off, A = some ⟨b, off, none⟩ ∧ b < B ∧ ∀ k, k < n → ∃ x : Nat, x < 256 ∧ w.cell? ⟨b, off + k, none⟩ = some (.int .u8 x)
theorem BytR.below {w w' : World} {B : Nat} {A : Option Addr} {n : Nat} (h : BytR w B A n) (hb : Below B w w') : BytR w' B A n := fun h0 => by
  obtain ⟨b, off, rfl, hB, hc⟩ := h h0
  refine ⟨b, off, rfl, hB, fun k hk => ?_⟩
  obtain ⟨x, hx, c⟩ := hc k hk
  exact ⟨x, hx, (hb.cell (p := ⟨b, off + k, none⟩) hB).trans c⟩

/-- the cursor at block bc over those bytes, its place at most K -/
def Cur (w : World) (bc : Nat) (A : Option Addr) (n c K : Nat) : Prop :=
  BytR w bc A n ∧ ∃ p s : Nat, Blk w bc 130 #[.slice A n c, .int .i64 p, .int .i64 s] ∧ p ≤ K ∧ s ≤ 70000
theorem Cur.lt {w : World} {bc : Nat} {A : Option Addr} {n c K : Nat} (h : Cur w bc A n c K) : bc < w.heap.size := by obtain ⟨_, p, s, hb, _⟩ := h; exact hb.lt
theorem Cur.more {w : World} {bc : Nat} {A : Option Addr} {n c K K' : Nat} (h : Cur w bc A n c K) (hK : K ≤ K') : Cur w bc A n c K' := by
  obtain ⟨h1, p, s, hb, hp, hs⟩ := h
  exact ⟨h1, p, s, hb, by omega, hs⟩
/-- nothing but the cursor's block has turned -/
abbrev Kp (bc : Nat) (w w' : World) : Prop := w.grownBy w' (some bc)
theorem Kp.refl (bc : Nat) (w : World) : Kp bc w w := ⟨rfl, rfl, rfl, Nat.le_refl _, fun _ _ _ => rfl⟩
theorem Kp.trans {bc : Nat} {a b c : World} (h : Kp bc a b) (k : Kp bc b c) : Kp bc a c :=
  ⟨k.os.trans h.os, k.tape.trans h.tape, k.output.trans h.output, Nat.le_trans h.size k.size, fun i hi hn => (k.block i (Nat.lt_of_lt_of_le hi h.size) hn).trans (h.block i hi hn)⟩
theorem Kp.of_below {bc : Nat} {a b : World} (h : Below a.heap.size a b) : Kp bc a b := ⟨h.os, h.tape, h.output, h.size, fun i hi _ => h.block i hi⟩
theorem Kp.below {bc B : Nat} {w0 a b : World} (h0 : Below B w0 a) (h : Kp bc a b) (hB : B ≤ bc) (hz : B ≤ a.heap.size) : Below B w0 b := h0.grown h hz (fun k hk => by injection hk with hk; omega)
theorem Kp.own {bc : Nat} {a b : World} {base : Nat} {e : TypeId} {size n : Nat} {v : Value} {xs : List Value} (h : a.ownsRow base e size v n xs) (hk : Kp bc a b) (hb : bc < base) : b.ownsRow base e size v n xs :=
  h.kept hk (by
    cases hv : v.ownBlock with
    | none => exact .inl rfl
    | some g =>
      refine .inr (fun he => ?_)
      have := (h.lt g hv).1
      injection he with he
      omega)
theorem Cur.below {w w' : World} {bc : Nat} {A : Option Addr} {n c K : Nat} (h : Cur w bc A n c K) (hb : Below w.heap.size w w') : Cur w' bc A n c K := by
  have hlt := h.lt
  obtain ⟨h1, p, s, hblk, hp, hs⟩ := h
  exact ⟨h1.below (hb.mono (by omega)), p, s, hblk.below hb hlt, hp, hs⟩

theorem Kp.drew {bc : Nat} {a b : World} (h : Kp bc a b) : Kp bc a b.drew := ⟨h.os, h.tape, h.output, h.size, h.block⟩
theorem Kp.put (w : World) (bc i : Nat) (u : Value) : Kp bc w (w.setCell ⟨bc, i, none⟩ u) :=
  ⟨rfl, rfl, rfl, by rw [World.size_setCell]; exact Nat.le_refl _, fun k _ hn => Below.heap_setCell w ⟨bc, i, none⟩ u k (fun e => hn (by rw [e]))⟩
theorem cur_put {w : World} {bc : Nat} {A : Option Addr} {n c K p s : Nat} (hby : BytR w bc A n) (hblk : Blk w bc 130 #[.slice A n c, .int .i64 p, .int .i64 s]) (hp : p ≤ K) (hs : s ≤ 70000) :
    Cur (w.setCell ⟨bc, 1, none⟩ (.int .i64 ((p : Int) + 1))) bc A n c (K + 1) := by
  refine ⟨hby.below ((Below.refl _ _).setCell (p := ⟨bc, 1, none⟩) (Nat.le_refl _) _), p + 1, s, ?_, by omega, hs⟩
  have h := hblk.put 1 (.int .i64 ((p : Int) + 1))
  exact h
theorem cur_put2 {w : World} {bc : Nat} {A : Option Addr} {n c K p s s' : Nat} (hby : BytR w bc A n) (hblk : Blk w bc 130 #[.slice A n c, .int .i64 p, .int .i64 s]) (hp : p ≤ K) (hs : s' ≤ 70000) :
    Cur ((w.setCell ⟨bc, 2, none⟩ (.int .i64 (s' : Int))).setCell ⟨bc, 1, none⟩ (.int .i64 ((p : Int) + 1))) bc A n c (K + 1) := by
  refine cur_put (s := s') (hby.below ((Below.refl _ _).setCell (p := ⟨bc, 2, none⟩) (Nat.le_refl _) _)) ?_ hp hs
  have h := hblk.put 2 (.int .i64 (s' : Int))
  exact h

set_option maxRecDepth 100000 in
set_option maxHeartbeats 2000000 in
theorem pick_any (w : World) (bc : Nat) (A : Option Addr) (n c K m : Nat) (hc : Cur w bc A n c K) (hK : K ≤ 1000000) (hm : m ≤ 1000000) (hn : n ≤ 1048576) :
    Calls Tryz.prog 86 #[.pointer (some ⟨bc, 0, none⟩), .int .i64 m] w fun e w' => ∃ r : Nat, e = .returned (.int .i64 r) ∧ (r = 0 ∨ r < m) ∧ Cur w' bc A n c (K + 1) ∧ Kp bc w w' := by
  by_cases hm2 : m < 2
  · go_enter Tryz.func86, Tryz.ntmps86
    go_wp2
    go_ret
    exact ⟨0, rfl, .inl rfl, hc.more (by omega), Kp.refl _ _⟩
  · obtain ⟨hby, p, s, hblk, hp, hs⟩ := hc
    have x0 : w.cell? ⟨bc, 0, none⟩ = some (.slice A n c) := hblk.cell 0
    have x1 : w.cell? ⟨bc, 1, none⟩ = some (.int .i64 p) := hblk.cell 1
    have x2 : w.cell? ⟨bc, 2, none⟩ = some (.int .i64 s) := hblk.cell 2
    have f1 := hblk.thawed 1
    have f2 := hblk.thawed 2
    have hlt := hblk.lt
    have hm2' : ¬ ((m : Int) < 2) := by omega
    by_cases hat : p < n
    · obtain ⟨b, off, rfl, hb, hcs⟩ := hby (by omega)
      obtain ⟨x, hx, y1⟩ := hcs p hat
      have HB := Lib.hid hblk
      have HY := Lib.hid hby
      clear hblk hcs hby
      go_enter Tryz.func86, Tryz.ntmps86
      go_wp2_with fail
      go_region
      go_wp2_with fail
      go_region
      go_wp2
      go_ret
      exact ⟨x % m, ret_int (by simp), .inr (Nat.mod_lt _ (by omega)), cur_put HY.out HB.out hp hs, (Kp.put _ _ _ _).drew.drew⟩
    · obtain ⟨s', hs'⟩ : ∃ s' : Nat, (s * 1103 + 12345) % 65521 = s' := ⟨_, rfl⟩
      have hsb : s' ≤ 65520 := by omega
      have hsi : ((s : Int) * 1103 + 12345) % 65521 = (s' : Int) := by omega
      by_cases hn0 : n = 0
      · subst hn0
        have HB := Lib.hid hblk
        have HY := Lib.hid hby
        clear hblk hby hs'
        go_enter Tryz.func86, Tryz.ntmps86
        go_wp2_with fail
        go_region
        go_wp2
        go_ret
        exact ⟨0 % m, ret_int (by simp), .inr (Nat.mod_lt _ (by omega)), cur_put2 HY.out HB.out hp (by omega), ((Kp.put _ _ _ _).trans (Kp.put _ _ _ _)).drew⟩
      · obtain ⟨b, off, rfl, hb, hcs⟩ := hby (by omega)
        have hpm : p % n < n := Nat.mod_lt _ (by omega)
        obtain ⟨x, hx, y1⟩ := hcs (p % n) hpm
        have hcast : (p : Int) % (n : Int) = ((p % n : Nat) : Int) := by simp
        generalize p % n = q at hpm y1 hcast
        have HB := Lib.hid hblk
        have HY := Lib.hid hby
        clear hblk hcs hby hs'
        go_enter Tryz.func86, Tryz.ntmps86
        go_wp2_with fail
        go_region
        go_wp2_with fail
        go_region
        go_wp2
        go_ret
        exact ⟨(s' / 7 + x) % m, ret_int (by simp), .inr (Nat.mod_lt _ (by omega)), cur_put2 HY.out HB.out hp (by omega), ((Kp.put _ _ _ _).trans (Kp.put _ _ _ _)).drew.drew⟩

set_option maxHeartbeats 800000 in
theorem once_any (w : World) (bc : Nat) (A : Option Addr) (n c K m : Nat) (hc : Cur w bc A n c K) (hK : K ≤ 1000000) (hm : m ≤ 1000000) (hn : n ≤ 1048576) :
    Calls Tryz.prog 109 #[.pointer (some ⟨bc, 0, none⟩), .int .i64 m] w fun e w' => ∃ r : Bool, e = .returned (.bool r) ∧ Cur w' bc A n c (K + 1) ∧ Kp bc w w' := by
  go_enter Tryz.func109, Tryz.ntmps109
  go_wp2_with fail
  refine (pick_any w bc A n c K m hc hK hm hn).mono ?_
  rintro e w1 ⟨r, rfl, _, hc1, hk1⟩
  go_wp2
  go_ret
  exact ⟨_, rfl, hc1, hk1⟩
end Go.Proofs.YtgebjnoicgmdoaaGreatDoor

namespace Go.Proofs.YtgebjnoicgmdoaaGreatDoor
open Go.RowKit

theorem BytR.grown {w w' : World} {B : Nat} {A : Option Addr} {n : Nat} {row : Option Nat} (h : BytR w B A n) (hg : w.grownBy w' row) (hB : B ≤ w.heap.size) (hr : ∀ k, row = some k → B ≤ k) : BytR w' B A n :=
  h.below ((Below.refl B w).grown hg hB hr)
theorem Cur.grown {w w' : World} {bc : Nat} {A : Option Addr} {n c K : Nat} {row : Option Nat} (h : Cur w bc A n c K) (hg : w.grownBy w' row) (hr : ∀ k, row = some k → bc < k) : Cur w' bc A n c K := by
  have hlt := h.lt
  obtain ⟨h1, p, s, hblk, hp, hs⟩ := h
  exact ⟨h1.grown hg (by omega) (fun k hk => by have := hr k hk; omega), p, s, hblk.grown hg (fun he => by have := hr bc he.symm; omega), hp, hs⟩
theorem Cur.alloc {w : World} {bc : Nat} {A : Option Addr} {n c K : Nat} (h : Cur w bc A n c K) (o : Obj) : Cur (w.alloc o) bc A n c K := h.below ((Below.refl _ _).alloc (Nat.le_refl _) o)
theorem Kp.alloc {bc : Nat} {a b : World} (h : Kp bc a b) (o : Obj) : Kp bc a (b.alloc o) := h.trans (Kp.of_below ((Below.refl _ _).alloc (Nat.le_refl _) o))
theorem Kp.blk {bc g : Nat} {a b : World} {t : TypeId} {cs : Array Value} (hb : Blk a g t cs) (h : Kp bc a b) (hne : g ≠ bc) : Blk b g t cs := hb.grown h (fun he => by injection he with he; exact hne he)
theorem Kp.more {bc : Nat} {a b c : World} {row : Option Nat} (h : Kp bc a b) (k : b.grownBy c row) (hr : ∀ j, row = some j → a.heap.size ≤ j) : Kp bc a c := h.andThen k (fun j hj => .inl (hr j hj))

set_option maxRecDepth 100000 in
set_option maxHeartbeats 2000000 in
theorem raw_any (w : World) (bc : Nat) (A : Option Addr) (n c K : Nat) (hc : Cur w bc A n c K) (hK : K ≤ 900000) (hn : n ≤ 1048576) :
    Calls Tryz.prog 87 #[.pointer (some ⟨bc, 0, none⟩)] w fun e w' => ∃ r : Int, e = .returned (.int .i64 r) ∧ Cur w' bc A n c (K + 2) ∧ Kp bc w w' := by
  go_enter Tryz.func87, Tryz.ntmps87
  go_wp2_with fail
  refine (pick_any w bc A n c K 8 hc (by omega) (by omega) hn).mono ?_
  rintro e w1 ⟨r, rfl, hr, hc1, hk1⟩
  by_cases r0 : r = 0
  · subst r0
    go_wp2_with fail
    refine (pick_any w1 bc A n c (K + 1) 256 hc1 (by omega) (by omega) hn).mono ?_
    rintro e w2 ⟨x, rfl, hx, hc2, hk2⟩
    go_wp2
    go_ret
    exact ⟨_, rfl, hc2, hk1.trans hk2⟩
  · by_cases r1 : r = 1
    · subst r1
      go_wp2_with fail
      refine (pick_any _ bc A n c (K + 1) 8 (hc1.alloc _) (by omega) (by omega) hn).mono ?_
      rintro e w2 ⟨x, rfl, hx, hc2, hk2⟩
      have hbk := Kp.blk (Blk.made w1 _ _) hk2 (by have := hc1.lt; omega)
      obtain ⟨v, hv⟩ : ∃ v, w2.cell? ⟨w1.heap.size, x, none⟩ = some (.int .i64 v) := by
        have hx8 : x = 0 ∨ x = 1 ∨ x = 2 ∨ x = 3 ∨ x = 4 ∨ x = 5 ∨ x = 6 ∨ x = 7 := by omega
        rcases hx8 with rfl | rfl | rfl | rfl | rfl | rfl | rfl | rfl <;> exact ⟨_, hbk.cell _⟩
      have hx8 : x < 8 := by omega
      have HK := Lib.hid (hk1.trans ((Kp.of_below ((Below.refl _ _).alloc (Nat.le_refl _) _)).trans hk2))
      clear hbk hk2
      go_wp2
      go_ret
      exact ⟨_, rfl, hc2, HK.out⟩
    · have e0 : ¬ ((r : Int) = 0) := by omega
      have e1 : ¬ ((r : Int) = 1) := by omega
      go_wp2_with fail
      refine (pick_any w1 bc A n c (K + 1) 14 hc1 (by omega) (by omega) hn).mono ?_
      rintro e w2 ⟨x, rfl, hx, hc2, hk2⟩
      go_wp2
      go_ret
      exact ⟨_, rfl, hc2, hk1.trans hk2⟩

/-- what a draw of tokens gives: a row of its own that is not empty -/
def Drew (bc : Nat) (A : Option Addr) (n c K : Nat) (w : World) (e : Ending) (w' : World) : Prop :=
  ∃ g cap l, e = .returned (.slice (some ⟨g, 0, none⟩) l.length cap) ∧ 1 ≤ l.length ∧ l.length ≤ 24 ∧ OwnT w' w.heap.size (some ⟨g, 0, none⟩) l.length cap l ∧ Cur w' bc A n c K ∧ Kp bc w w'

theorem own_tok (w : World) (a b : Int) : OwnT (w.alloc (.cells #[.int .i64 a, .int .i64 b] 51)) w.heap.size (some ⟨w.heap.size, 0, none⟩) 1 1 [(a, b)] :=
  ⟨rfl, .inr ⟨w.heap.size, 1, _, rfl, Nat.le_refl _, Blk.made w 51 _, Nat.le_refl _, by simp [maxLen], rfl, rfl⟩⟩

set_option maxRecDepth 100000 in
set_option maxHeartbeats 2000000 in
theorem leaf_any (w : World) (bc : Nat) (A : Option Addr) (n c K : Nat) (hc : Cur w bc A n c K) (hK : K ≤ 900000) (hn : n ≤ 1048576) :
    Calls Tryz.prog 119 #[.pointer (some ⟨bc, 0, none⟩)] w (Drew bc A n c (K + 4) w) := by
  obtain ⟨i0, hi, hz0, hz1, hz2⟩ := info_parts info_tok
  have hlt := hc.lt
  go_enter Tryz.func119, Tryz.ntmps119
  go_wp2_with fail
  refine (pick_any w bc A n c K 3 hc (by omega) (by omega) hn).mono ?_
  rintro e w1 ⟨r, rfl, hr, hc1, hk1⟩
  have s1 := hk1.size
  go_wp2_with fail
  refine (once_any _ bc A n c (K + 1) 4 (hc1.alloc _) (by omega) (by omega) hn).mono ?_
  rintro e w2 ⟨b, rfl, hc2, hk2⟩
  have s2 := hk2.size
  simp only [World.size_alloc] at s2
  have ho2 := Kp.own (own_base (base' := w.heap.size) (own_tok w1 4 r) s1) hk2 (by omega)
  have hk12 := (hk1.alloc _).trans hk2
  clear hk1 hk2
  cases b with
  | true =>
    have hoX := Lib.hid (own_base (base' := w.heap.size) (own_tok w2 0 0) (by omega))
    have hcX := hc2.alloc (.cells #[.int .i64 0, .int .i64 0] 51)
    have hkX := hk12.alloc (.cells #[.int .i64 0, .int .i64 0] 51)
    clear ho2 hc2 hk12
    go_wp2_with fail
    refine (pick_any _ bc A n c (K + 2) 3 hcX (by omega) (by omega) hn).mono ?_
    rintro e w3 ⟨x, rfl, hx, hc3, hk3⟩
    have hk03 := hkX.trans hk3
    have ho3 := Lib.hid (Kp.own hoX.out hk3 (by omega))
    clear hoX hcX hkX hk3
    go_wp2_with fail
    refine (pick_any w3 bc A n c (K + 3) 2 hc3 (by omega) (by omega) hn).mono ?_
    rintro e w4 ⟨y, rfl, hy, hc4, hk4⟩
    have hk04 := hk03.trans hk4
    have ho4 := Lib.hid (Kp.own ho3.out hk4 (by omega))
    have s4 := hk04.size
    clear ho3 hc3 hk03 hk4
    obtain ⟨q, hq⟩ : ∃ q, x * y = q := ⟨_, rfl⟩
    have hq2 : q ≤ 2 := by
      rcases (show y = 0 ∨ y = 1 by omega) with rfl | rfl
      · omega
      · omega
    have hmul : (x : Int) * (y : Int) = (q : Int) := by rw [← hq]; simp
    clear hq
    go_wp2
    go_loopw [3, 4] (fun v i wr => ∃ (j g cap : Nat) (l : List (Int × Int)), i = .int .i64 j ∧ v = .slice (some ⟨g, 0, none⟩) l.length cap ∧ 1 ≤ l.length ∧ l.length + j ≤ 3 ∧ OwnT wr w.heap.size (some ⟨g, 0, none⟩) l.length cap l ∧ Cur wr bc A n c (K + 4) ∧ Kp bc w wr) (fun _ i _ => (intOf i).toNat)
    case atStart => exact ⟨q, _, 1, [_], rfl, rfl, Nat.le_refl _, (by simp; omega), ho4.out, hc4, hk04⟩
    case round =>
      obtain ⟨j, g, cap, l, rfl, rfl, hl1, hlj, hown, hcr, hkr⟩ := hrel
      have hszr := hkr.size
      by_cases hj : 0 < j
      · have hpos : (0 : Int) < (j : Int) := by omega
        obtain ⟨L, hL⟩ : ∃ L, l.length = L := ⟨_, rfl⟩
        rw [hL] at hown hl1 hlj ⊢
        go_wp2_with (at_builtin; refine wpList_append_own _ rfl (.tmp 22) (.tmp 24) 25 rfl w.heap.size 51 i0 (.agg #[.int .i64 0, .int .i64 0]) 2 16 Tryz.underlying25 hi hz0 hz1 hz2 rfl (by decide) (.slice (some ⟨g, 0, none⟩) L cap) L (tokCells l) rfl (hown.alloc _) ⟨wr.heap.size, 0, none⟩ 1 1 (tokCells [(1, 0)]) rfl rfl (Blk.tokA2 _ _ _) (tokCells_one _) (by unfold maxLen; omega) (by omega) (by simp; omega) ?_; intro v' w5 hown' hgrow hnil)
        obtain ⟨g2, cap2, rfl⟩ : ∃ g' cap', v' = .slice (some ⟨g', 0, none⟩) (L + 1) cap' := by
          rcases hown'.2 with ⟨h0, _⟩ | ⟨g', cap', _, h0, _⟩
          · have := (hnil.1 h0).1
            cases this
          · exact ⟨g', cap', h0⟩
        have HLn : Hid ((l ++ [((1 : Int), (0 : Int))]).length = L + 1) := by show _ = _; simp [hL]
        have HW : Hid (OwnT w5 w.heap.size (some ⟨g2, 0, none⟩) (l ++ [(1, 0)]).length cap2 (l ++ [(1, 0)])) := by
          show OwnT _ _ _ _ _ _
          rw [HLn.out]
          unfold OwnT
          rw [tokCells_append]
          exact hown'
        have HC := Lib.hid ((hcr.alloc _).grown hgrow (fun k h => by have := (hown.lt k h).1; omega))
        have HK := Lib.hid ((hkr.alloc _).more hgrow (fun k h => (hown.lt k h).1))
        clear hown hown' hgrow hnil hcr hkr hL
        go_wp2
        go_roundw
        case rel => exact ⟨j - 1, g2, cap2, l ++ [(1, 0)], by go_num, by rw [HLn.out], by rw [HLn.out]; omega, by rw [HLn.out]; omega, HW.out, HC.out, HK.out⟩
        case measure => simp [intOf]; omega
      · obtain rfl : j = 0 := by omega
        go_wp2
        go_ret
        exact ⟨g, cap, l, rfl, hl1, by omega, hown, hcr, hkr⟩
  | false =>
    have hoX := Lib.hid (ho2)
    have hcX := hc2
    have hkX := hk12
    clear ho2 hc2 hk12
    go_wp2_with fail
    refine (pick_any _ bc A n c (K + 2) 3 hcX (by omega) (by omega) hn).mono ?_
    rintro e w3 ⟨x, rfl, hx, hc3, hk3⟩
    have hk03 := hkX.trans hk3
    have ho3 := Lib.hid (Kp.own hoX.out hk3 (by omega))
    clear hoX hcX hkX hk3
    go_wp2_with fail
    refine (pick_any w3 bc A n c (K + 3) 2 hc3 (by omega) (by omega) hn).mono ?_
    rintro e w4 ⟨y, rfl, hy, hc4, hk4⟩
    have hk04 := hk03.trans hk4
    have ho4 := Lib.hid (Kp.own ho3.out hk4 (by omega))
    have s4 := hk04.size
    clear ho3 hc3 hk03 hk4
    obtain ⟨q, hq⟩ : ∃ q, x * y = q := ⟨_, rfl⟩
    have hq2 : q ≤ 2 := by
      rcases (show y = 0 ∨ y = 1 by omega) with rfl | rfl
      · omega
      · omega
    have hmul : (x : Int) * (y : Int) = (q : Int) := by rw [← hq]; simp
    clear hq
    go_wp2
    go_loopw [3, 4] (fun v i wr => ∃ (j g cap : Nat) (l : List (Int × Int)), i = .int .i64 j ∧ v = .slice (some ⟨g, 0, none⟩) l.length cap ∧ 1 ≤ l.length ∧ l.length + j ≤ 3 ∧ OwnT wr w.heap.size (some ⟨g, 0, none⟩) l.length cap l ∧ Cur wr bc A n c (K + 4) ∧ Kp bc w wr) (fun _ i _ => (intOf i).toNat)
    case atStart => exact ⟨q, _, 1, [_], rfl, rfl, Nat.le_refl _, (by simp; omega), ho4.out, hc4, hk04⟩
    case round =>
      obtain ⟨j, g, cap, l, rfl, rfl, hl1, hlj, hown, hcr, hkr⟩ := hrel
      have hszr := hkr.size
      by_cases hj : 0 < j
      · have hpos : (0 : Int) < (j : Int) := by omega
        obtain ⟨L, hL⟩ : ∃ L, l.length = L := ⟨_, rfl⟩
        rw [hL] at hown hl1 hlj ⊢
        go_wp2_with (at_builtin; refine wpList_append_own _ rfl (.tmp 22) (.tmp 24) 25 rfl w.heap.size 51 i0 (.agg #[.int .i64 0, .int .i64 0]) 2 16 Tryz.underlying25 hi hz0 hz1 hz2 rfl (by decide) (.slice (some ⟨g, 0, none⟩) L cap) L (tokCells l) rfl (hown.alloc _) ⟨wr.heap.size, 0, none⟩ 1 1 (tokCells [(1, 0)]) rfl rfl (Blk.tokA2 _ _ _) (tokCells_one _) (by unfold maxLen; omega) (by omega) (by simp; omega) ?_; intro v' w5 hown' hgrow hnil)
        obtain ⟨g2, cap2, rfl⟩ : ∃ g' cap', v' = .slice (some ⟨g', 0, none⟩) (L + 1) cap' := by
          rcases hown'.2 with ⟨h0, _⟩ | ⟨g', cap', _, h0, _⟩
          · have := (hnil.1 h0).1
            cases this
          · exact ⟨g', cap', h0⟩
        have HLn : Hid ((l ++ [((1 : Int), (0 : Int))]).length = L + 1) := by show _ = _; simp [hL]
        have HW : Hid (OwnT w5 w.heap.size (some ⟨g2, 0, none⟩) (l ++ [(1, 0)]).length cap2 (l ++ [(1, 0)])) := by
          show OwnT _ _ _ _ _ _
          rw [HLn.out]
          unfold OwnT
          rw [tokCells_append]
          exact hown'
        have HC := Lib.hid ((hcr.alloc _).grown hgrow (fun k h => by have := (hown.lt k h).1; omega))
        have HK := Lib.hid ((hkr.alloc _).more hgrow (fun k h => (hown.lt k h).1))
        clear hown hown' hgrow hnil hcr hkr hL
        go_wp2
        go_roundw
        case rel => exact ⟨j - 1, g2, cap2, l ++ [(1, 0)], by go_num, by rw [HLn.out], by rw [HLn.out]; omega, by rw [HLn.out]; omega, HW.out, HC.out, HK.out⟩
        case measure => simp [intOf]; omega
      · obtain rfl : j = 0 := by omega
        go_wp2
        go_ret
        exact ⟨g, cap, l, rfl, hl1, by omega, hown, hcr, hkr⟩
end Go.Proofs.YtgebjnoicgmdoaaGreatDoor

/- Plain facts for constraints: a table of the longest ways between six nodes, made step by step in place; what it tells of the values that satisfy all constraints. Nothing of the program is imported. -/
namespace Go.Proofs.YtgebjnoicgmdoaaGreatDoor.Cs

/-- a table of numbers between nodes -/
abbrev Tb := Nat → Nat → Int
def put (d : Tb) (i j : Nat) (x : Int) : Tb := fun a b => if a = i ∧ b = j then x else d a b
theorem put_same (d : Tb) (i j : Nat) (x : Int) : put d i j x i j = x := by simp [put]
theorem put_other (d : Tb) {i j a b : Nat} (x : Int) (h : ¬ (a = i ∧ b = j)) : put d i j x a b = d a b := by simp only [put, if_neg h]
/-- one step: the way by k -/
def relax (k i j : Nat) (d : Tb) : Tb := if 0 ≤ d i k ∧ 0 ≤ d k j then put d i j (min 1000 (max (d i j) (d i k + d k j))) else d
def relaxJ (k i : Nat) : Nat → Tb → Tb
  | 0, d => d
  | n + 1, d => relax k i n (relaxJ k i n d)
def relaxI (k : Nat) : Nat → Tb → Tb
  | 0, d => d
  | n + 1, d => relaxJ k n 6 (relaxI k n d)
def relaxK : Nat → Tb → Tb
  | 0, d => d
  | n + 1, d => relaxI n 6 (relaxK n d)

/-- values that keep all distances of the table -/
def Keeps (v : Nat → Int) (d : Tb) : Prop := ∀ i j, 0 ≤ d i j → v i + d i j ≤ v j
theorem Keeps.relax {v : Nat → Int} {d : Tb} (h : Keeps v d) (k i j : Nat) : Keeps v (relax k i j d) := by
  unfold Cs.relax
  split
  · rename_i hc
    intro a b hab
    by_cases e : a = i ∧ b = j
    · obtain ⟨rfl, rfl⟩ := e
      rw [put_same] at hab ⊢
      have h1 := h a k hc.1
      have h2 := h k b hc.2
      by_cases h3 : 0 ≤ d a b
      · have := h a b h3; omega
      · omega
    · rw [put_other d _ e] at hab ⊢
      exact h a b hab
  · exact h
theorem Keeps.relaxJ {v : Nat → Int} {d : Tb} (h : Keeps v d) (k i : Nat) : ∀ n, Keeps v (relaxJ k i n d)
  | 0 => h
  | n + 1 => (Keeps.relaxJ h k i n).relax k i n
theorem Keeps.relaxI {v : Nat → Int} {d : Tb} (h : Keeps v d) (k : Nat) : ∀ n, Keeps v (relaxI k n d)
  | 0 => h
  | n + 1 => (Keeps.relaxI h k n).relaxJ k n 6
theorem Keeps.relaxK {v : Nat → Int} {d : Tb} (h : Keeps v d) : ∀ n, Keeps v (relaxK n d)
  | 0 => h
  | n + 1 => (Keeps.relaxK h n).relaxI n 6

/-- the table only grows, and no further than 1000 -/
def Up (d e : Tb) : Prop := ∀ i j, d i j ≤ e i j ∧ e i j ≤ 1000
theorem Up.refl {d : Tb} (h : ∀ i j, d i j ≤ 1000) : Up d d := fun i j => ⟨Int.le_refl _, h i j⟩
theorem Up.trans {a b c : Tb} (h : Up a b) (k : Up b c) : Up a c := fun i j => ⟨Int.le_trans (h i j).1 (k i j).1, (k i j).2⟩
theorem Up.relax {d : Tb} (h : ∀ i j, d i j ≤ 1000) (k i j : Nat) : Up d (relax k i j d) := by
  unfold Cs.relax
  split
  · intro a b
    by_cases e : a = i ∧ b = j
    · obtain ⟨rfl, rfl⟩ := e
      rw [put_same]
      have := h a b
      omega
    · rw [put_other d _ e]
      exact ⟨Int.le_refl _, h a b⟩
  · exact Up.refl h
theorem Up.relaxJ {d : Tb} (h : ∀ i j, d i j ≤ 1000) (k i : Nat) : ∀ n, Up d (relaxJ k i n d)
  | 0 => Up.refl h
  | n + 1 => (Up.relaxJ h k i n).trans (Up.relax (fun a b => (Up.relaxJ h k i n a b).2) k i n)
theorem Up.relaxI {d : Tb} (h : ∀ i j, d i j ≤ 1000) (k : Nat) : ∀ n, Up d (relaxI k n d)
  | 0 => Up.refl h
  | n + 1 => (Up.relaxI h k n).trans (Up.relaxJ (fun a b => (Up.relaxI h k n a b).2) k n 6)
theorem Up.relaxK {d : Tb} (h : ∀ i j, d i j ≤ 1000) : ∀ n, Up d (relaxK n d)
  | 0 => Up.refl h
  | n + 1 => (Up.relaxK h n).trans (Up.relaxI (fun a b => (Up.relaxK h n a b).2) n 6)

/-- what a whole pass by k makes of a place, where no way leads round by k -/
def via (k : Nat) (d : Tb) : Tb := fun i j => if 0 ≤ d i k ∧ 0 ≤ d k j then max (d i j) (d i k + d k j) else d i j
/-- where k's own place is 0, a pass in place is that -/
theorem relax_via {k : Nat} {d e : Tb} (hk : d k k = 0) (hb : ∀ i j, d i j ≤ 400) {i j : Nat} (he : ∀ a b, e a b = via k d a b ∨ e a b = d a b) (hij : e i j = d i j ∨ e i j = via k d i j) :
    ∀ a b, relax k i j e a b = if a = i ∧ b = j then via k d i j else e a b := by
  have hrow : ∀ b, e k b = d k b := fun b => by
    rcases he k b with h | h
    · rw [h]; unfold via; rw [hk]; split <;> omega
    · exact h
  have hcol : ∀ a, e a k = d a k := fun a => by
    rcases he a k with h | h
    · rw [h]; unfold via; rw [hk]; split <;> omega
    · exact h
  intro a b
  unfold relax
  rw [hcol i, hrow j]
  have h1 := hb i k
  have h2 := hb k j
  have h3 := hb i j
  split
  · rename_i hc
    by_cases e' : a = i ∧ b = j
    · rw [if_pos e']
      obtain ⟨rfl, rfl⟩ := e'
      rw [put_same]
      unfold via at hij ⊢
      rw [if_pos hc] at hij ⊢
      omega
    · rw [if_neg e', put_other e _ e']
  · rename_i hc
    by_cases e' : a = i ∧ b = j
    · rw [if_pos e']
      obtain ⟨rfl, rfl⟩ := e'
      unfold via at hij ⊢
      rw [if_neg hc] at hij ⊢
      omega
    · rw [if_neg e']
theorem relaxJ_via {k : Nat} {d e : Tb} (hk : d k k = 0) (hb : ∀ i j, d i j ≤ 400) {i : Nat} (he : ∀ a b, e a b = via k d a b ∨ e a b = d a b) :
    ∀ n, ∀ a b, relaxJ k i n e a b = if a = i ∧ b < n then via k d i b else e a b := by
  intro n
  induction n with
  | zero => intro a b; rw [if_neg (by omega)]; rfl
  | succ n ih =>
    intro a b
    have he' : ∀ a b, relaxJ k i n e a b = via k d a b ∨ relaxJ k i n e a b = d a b := fun a b => by
      rw [ih a b]
      split
      · rename_i h; rw [h.1]; exact .inl rfl
      · exact he a b
    have := relax_via hk hb (i := i) (j := n) he' ((he' i n).symm) a b
    show relax k i n (relaxJ k i n e) a b = _
    rw [this]
    by_cases e1 : a = i ∧ b = n
    · rw [if_pos e1, if_pos ⟨e1.1, by omega⟩, e1.2]
    · rw [if_neg e1, ih a b]
      by_cases e2 : a = i ∧ b < n
      · rw [if_pos e2, if_pos ⟨e2.1, by omega⟩]
      · rw [if_neg e2, if_neg (fun h => e2 ⟨h.1, by have := h.2; have : b ≠ n := fun e3 => e1 ⟨h.1, e3⟩; omega⟩)]
theorem relaxI_via {k : Nat} {d : Tb} (hk : d k k = 0) (hb : ∀ i j, d i j ≤ 400) :
    ∀ n, ∀ a b, relaxI k n d a b = if a < n ∧ b < 6 then via k d a b else d a b := by
  intro n
  induction n with
  | zero => intro a b; rw [if_neg (by omega)]; rfl
  | succ n ih =>
    intro a b
    have he' : ∀ a b, relaxI k n d a b = via k d a b ∨ relaxI k n d a b = d a b := fun a b => by
      rw [ih a b]
      split
      · exact .inl rfl
      · exact .inr rfl
    show relaxJ k n 6 (relaxI k n d) a b = _
    rw [relaxJ_via hk hb (i := n) he' 6 a b, ih a b]
    by_cases e1 : a = n ∧ b < 6
    · rw [if_pos e1, if_pos ⟨by omega, e1.2⟩, e1.1]
    · rw [if_neg e1]
      by_cases e2 : a < n ∧ b < 6
      · rw [if_pos e2, if_pos ⟨by omega, e2.2⟩]
      · rw [if_neg e2, if_neg (fun h => by have : a ≠ n := fun e3 => e1 ⟨e3, h.2⟩; exact e2 ⟨by omega, h.2⟩)]

/-- ways by the first K nodes are in the table -/
def Closed (K : Nat) (d : Tb) : Prop := ∀ k, k < K → ∀ i j, i < 6 → j < 6 → 0 ≤ d i k → 0 ≤ d k j → d i k + d k j ≤ d i j
theorem closed_via {K : Nat} (hK : K < 6) {d : Tb} (hk : d K K = 0) (hc : Closed K d) (hm : ∀ i j, -1 ≤ d i j) : Closed (K + 1) (fun a b => if a < 6 ∧ b < 6 then via K d a b else d a b) := by
  intro k hkK i j hi hj h1 h2
  simp only at h1 h2 ⊢
  rw [if_pos ⟨hi, by omega⟩] at h1 ⊢
  rw [if_pos ⟨by omega, hj⟩] at h2 ⊢
  rw [if_pos ⟨hi, hj⟩]
  by_cases e : k = K
  · subst e
    have r1 : via k d i k = d i k := by unfold via; rw [hk]; split <;> omega
    have r2 : via k d k j = d k j := by unfold via; rw [hk]; split <;> omega
    rw [r1] at h1 ⊢
    rw [r2] at h2 ⊢
    unfold via
    rw [if_pos ⟨h1, h2⟩]
    omega
  · have hlt : k < K := by omega
    have c := hc k hlt
    have a1 := c i j hi hj
    have a2 := c i K hi hK
    have a3 := c K j hK hj
    have a4 := c K K hK hK
    have m1 := hm i k; have m2 := hm k j; have m3 := hm i K; have m4 := hm K k; have m5 := hm k K; have m6 := hm K j; have m7 := hm i j
    unfold via at h1 h2 ⊢
    by_cases p1 : 0 ≤ d i K ∧ 0 ≤ d K k
    · rw [if_pos p1] at h1 ⊢
      by_cases p2 : 0 ≤ d k K ∧ 0 ≤ d K j
      · rw [if_pos p2] at h2 ⊢
        rw [if_pos ⟨p1.1, p2.2⟩]
        have := a4 p1.2 p2.1
        by_cases q1 : 0 ≤ d i k
        · have b2 := a2 q1 p2.1
          by_cases q2 : 0 ≤ d k j
          · have b1 := a1 q1 q2; have b3 := a3 p1.2 q2; omega
          · omega
        · by_cases q2 : 0 ≤ d k j
          · have b3 := a3 p1.2 q2; omega
          · omega
      · rw [if_neg p2] at h2 ⊢
        have b3 := a3 p1.2 h2
        rw [if_pos ⟨p1.1, by omega⟩]
        by_cases q1 : 0 ≤ d i k
        · have b1 := a1 q1 h2; omega
        · omega
    · rw [if_neg p1] at h1 ⊢
      by_cases p2 : 0 ≤ d k K ∧ 0 ≤ d K j
      · rw [if_pos p2] at h2 ⊢
        have b2 := a2 h1 p2.1
        rw [if_pos ⟨by omega, p2.2⟩]
        by_cases q2 : 0 ≤ d k j
        · have b1 := a1 h1 q2; omega
        · omega
      · rw [if_neg p2] at h2 ⊢
        have b1 := a1 h1 h2
        split <;> omega
end Go.Proofs.YtgebjnoicgmdoaaGreatDoor.Cs
