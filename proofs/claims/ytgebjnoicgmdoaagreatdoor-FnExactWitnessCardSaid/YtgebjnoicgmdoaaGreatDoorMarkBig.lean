/- The laws' marks upon slices of constraints. -/
/- The laws' work on slices of levels: their size, a copy. -/
/- Marks upon tokens and levels with a higher bound of the first mark. -/
import Derived.Test.YtgebjnoicgmdoaaGreatDoorLawC
import Derived.Test.YtgebjnoicgmdoaaGreatDoorOwnO

namespace Go.Proofs.YtgebjnoicgmdoaaGreatDoor
open Go.RowKit
open Cs (Cn)

set_option maxHeartbeats 800000 in
theorem markConS_any (w : World) (base : Nat) (A : Option Addr) (n c : Nat) (xs : List Value) (hown : w.ownsRow base 41 3 (.slice A n c) n xs) (k : Nat) (hn : n ≤ 3000000) (hk : k ≤ 3000000) :
    Calls Tryz.prog 39 #[.slice A n c, .int .i64 k] w fun e w' => e = .returned (.int .i64 ((k + n * 3 : Nat) : Int)) ∧ MarkOut w base 41 3 (.slice A n c) n k w' := by
  by_cases h0 : n = 0
  · subst h0
    have HO := Lib.hid (own_empty hown k)
    clear hown
    go_enter Tryz.func39, Tryz.ntmps39
    go_wp2
    go_loop [1, 5] (fun m i => m = .int .i64 k ∧ i = .int .i64 0) (fun _ _ => 0)
    case atStart => exact ⟨rfl, rfl⟩
    case round =>
      obtain ⟨rfl, rfl⟩ := hrel
      go_wp2
      go_ret
      exact ⟨rfl, World.grownBy.refl _ _, rfl, HO.out⟩
  · rcases hown.2 with ⟨_, h⟩ | ⟨g, cap, cur, hv, hb, hgg, h1, h2, h3, h4⟩
    · omega
    · injection hv with e1 e2 e3
      subst e1; subst e3
      have hblk : Blk w g 41 cur := hgg
      have HS : Hid (Marking w g 41 (c * 3) k 0 w) := ⟨World.grownBy.refl _ _, rfl, cur, hblk, h3, by intro i hi; omega⟩
      have HW := Lib.hid hown
      clear hgg hblk h3 h4 hown
      go_enter Tryz.func39, Tryz.ntmps39
      go_wp2
      go_loopw [1, 5] (fun m i wr => ∃ j : Nat, j ≤ n ∧ i = .int .i64 j ∧ m = .int .i64 ((k + j * 3 : Nat) : Int) ∧ Marking w g 41 (c * 3) k (j * 3) wr) (fun _ i _ => n - (intOf i).toNat)
      case atStart => exact ⟨0, Nat.zero_le _, rfl, rfl, HS.out⟩
      case round =>
        obtain ⟨j, hj, rfl, rfl, hM⟩ := hrel
        by_cases hlt : j < n
        · have hM1 := marking_step hM (by omega)
          have hM2 := marking_step hM1 (by omega)
          have HN := Lib.hid (marking_step hM2 (by omega))
          obtain ⟨_, _, cs, hblk, hs, _⟩ := hM
          have f1 := hblk.thawed (j * 3)
          have f2 := hblk.thawed (j * 3 + 1)
          have f3 := hblk.thawed (j * 3 + 2)
          obtain ⟨v1, d1⟩ : ∃ v1, wr.cell? ⟨g, j * 3, none⟩ = some v1 := ⟨_, (hblk.cell _).trans (Array.getElem?_eq_getElem (by omega))⟩
          obtain ⟨v2, d2⟩ : ∃ v2, wr.cell? ⟨g, j * 3 + 1, none⟩ = some v2 := ⟨_, (hblk.cell _).trans (Array.getElem?_eq_getElem (by omega))⟩
          obtain ⟨v3, d3⟩ : ∃ v3, wr.cell? ⟨g, j * 3 + 2, none⟩ = some v3 := ⟨_, (hblk.cell _).trans (Array.getElem?_eq_getElem (by omega))⟩
          clear hblk hs hM1 hM2
          go_wp2
          go_roundw
          case rel => exact ⟨j + 1, by omega, by go_num, by go_num, by
            have h := HN.out
            rw [show (j + 1) * 3 = j * 3 + 1 + 1 + 1 by omega]
            simpa [Nat.add_assoc, Int.add_assoc] using h⟩
          case measure => simp [intOf]; omega
        · obtain rfl : j = n := by omega
          have HM := Lib.hid hM
          clear hM
          go_wp2
          go_ret
          have hM := HM.out
          exact ⟨rfl, hM.1, hM.2.1, marked (size := 3) HW.out hM⟩

theorem ConOwn.mark {w w' : World} {g n base m k size : Nat} {e : TypeId} {v : Value} {l : List Cn} {lo hi : Nat} (h : ConOwn w g n l) (hm : MarkOut w base e size v m k w') (hv : InR v lo hi) (hd : g < lo ∨ hi ≤ g) : ConOwn w' g n l := by
  obtain ⟨hl, cs, hblk, rest⟩ := h
  refine ⟨hl, cs, ?_, rest⟩
  exact (hm.1.block g hblk.lt (fun he => by have := hv g he.symm; omega)).trans hblk
end Go.Proofs.YtgebjnoicgmdoaaGreatDoor

namespace Go.Proofs.YtgebjnoicgmdoaaGreatDoor
open Go.RowKit

theorem TokOwn.tl {w : World} {g n : Nat} {l : List (Int × Int)} (h : TokOwn w g n l) : g < w.heap.size := by obtain ⟨_, cs, hblk, _⟩ := h; exact hblk.lt
theorem TokOwn.put {w : World} {g n : Nat} {l : List (Int × Int)} (h : TokOwn w g n l) {p : Addr} (hp : g ≠ p.block) (u : Value) : TokOwn (w.setCell p u) g n l := by
  obtain ⟨hl, cs, hblk, rest⟩ := h
  exact ⟨hl, cs, hblk.other hp u, rest⟩

/-- block g is a row of just n levels, those of ls, each with a row of tokens of its own; all of it lies in g .. hi - 1 -/
def LvlOwn (w : World) (g hi n : Nat) (ls : List (List (Int × Int))) : Prop :=
  ls.length = n ∧ g < hi ∧ hi ≤ w.heap.size ∧ ∃ gs : Nat → Nat, (∀ i, i < n → g < gs i ∧ gs i < hi) ∧ (∀ i j, i < j → j < n → gs i < gs j) ∧
    (∃ cs, Blk w g 53 cs ∧ cs.size = n ∧ ∀ i, i < n → cs[i]? = some (.slice (some ⟨gs i, 0, none⟩) (ls.getD i []).length (ls.getD i []).length)) ∧ ∀ i, i < n → TokOwn w (gs i) (ls.getD i []).length (ls.getD i [])

theorem LvlOwn.lt {w : World} {g hi n : Nat} {ls : List (List (Int × Int))} (h : LvlOwn w g hi n ls) : g + 1 ≤ w.heap.size := by have := h.2.1; have := h.2.2.1; omega
theorem LvlOwn.below {w w' : World} {g hi n B : Nat} {ls : List (List (Int × Int))} (h : LvlOwn w g hi n ls) (hb : Below B w w') (hB : hi ≤ B) : LvlOwn w' g hi n ls := by
  obtain ⟨h1, h2, h3, gs, h4, h5, ⟨cs, hblk, hs, hc⟩, h7⟩ := h
  have := hb.size
  exact ⟨h1, h2, by omega, gs, h4, h5, ⟨cs, hblk.below hb (by omega), hs, hc⟩, fun i hi' => (h7 i hi').below hb (by have := (h4 i hi').2; omega)⟩
theorem LvlOwn.reads {w : World} {g hi n : Nat} {ls : List (List (Int × Int))} (h : LvlOwn w g hi n ls) (hm : bulk ls ≤ 1048576) : LvlR w hi (some ⟨g, 0, none⟩) n ls := by
  obtain ⟨h1, h2, _, gs, h4, _, ⟨cs, hblk, hs, hc⟩, h7⟩ := h
  refine ⟨h1, fun _ => ⟨g, 0, rfl, h2, fun k hk => ⟨some ⟨gs k, 0, none⟩, (ls.getD k []).length, (ls.getD k []).length, ?_, (h7 k hk).reads.more (by have := (h4 k hk).2; omega), ?_⟩⟩⟩
  · rw [Nat.zero_add, hblk.cell]; exact hc k hk
  · have := tot_get ls k (by omega)
    unfold bulk at hm
    omega

theorem TokOwn.lt {w : World} {g n : Nat} {l : List (Int × Int)} (h : TokOwn w g n l) : g + 1 ≤ w.heap.size := h.tl
theorem TokOwn.mark {w w' : World} {g n base m k size : Nat} {e : TypeId} {v : Value} {l : List (Int × Int)} {lo hi : Nat} (h : TokOwn w g n l) (hm : MarkOut w base e size v m k w') (hv : InR v lo hi) (hd : g < lo ∨ hi ≤ g) : TokOwn w' g n l := by
  have hlt := h.lt
  obtain ⟨hl, cs, hblk, rest⟩ := h
  refine ⟨hl, cs, ?_, rest⟩
  exact (hm.1.block g (by omega) (fun he => by have := hv g he.symm; omega)).trans hblk
theorem LvlOwn.mark {w w' : World} {g h' n base m k size : Nat} {e : TypeId} {v : Value} {ls : List (List (Int × Int))} {lo hi : Nat} (h : LvlOwn w g h' n ls) (hm : MarkOut w base e size v m k w') (hv : InR v lo hi) (hd : h' ≤ lo ∨ hi ≤ g) : LvlOwn w' g h' n ls := by
  obtain ⟨h1, h2, h3, gs, h4, h5, ⟨cs, hblk, hs, hc⟩, h7⟩ := h
  exact ⟨h1, h2, by rw [hm.2.1]; exact h3, gs, h4, h5, ⟨cs, hblk.grown hm.1 (fun he => by have := hv g he.symm; omega), hs, hc⟩, fun i hi' => (h7 i hi').mark hm hv (by have := h4 i hi'; omega)⟩

/-- nothing outside of g .. hi - 1 has turned -/
def LKept (w : World) (g hi : Nat) (wr : World) : Prop :=
  (∀ (B : Nat) (w0 : World), Below B w0 w → B ≤ g → Below B w0 wr) ∧
  (∀ (base : Nat) (e : TypeId) (size n : Nat) (u : Value) (xs : List Value) (lo' hi' : Nat), w.ownsRow base e size u n xs → InR u lo' hi' → (hi ≤ lo' ∨ hi' ≤ g) → wr.ownsRow base e size u n xs) ∧ wr.heap.size = w.heap.size
theorem LKept.below {w wr : World} {g hi : Nat} (h : LKept w g hi wr) {B : Nat} {w0 : World} (hb : Below B w0 w) (hB : B ≤ g) : Below B w0 wr := h.1 B w0 hb hB
theorem LKept.kept {w wr : World} {g hi : Nat} (h : LKept w g hi wr) {base : Nat} {e : TypeId} {size n : Nat} {u : Value} {xs : List Value} {lo' hi' : Nat} (hu : w.ownsRow base e size u n xs) (hi1 : InR u lo' hi') (hd : hi ≤ lo' ∨ hi' ≤ g) : wr.ownsRow base e size u n xs :=
  h.2.1 base e size n u xs lo' hi' hu hi1 hd
theorem LKept.size {w wr : World} {g hi : Nat} (h : LKept w g hi wr) : w.heap.size ≤ wr.heap.size := by rw [h.2.2]; exact Nat.le_refl _
theorem LKept.step {w wr w1 : World} {g hi base size n k : Nat} {e : TypeId} {v : Value} {lo h' : Nat} (h : LKept w g hi wr) (hg : g ≤ w.heap.size) (hm : MarkOut wr base e size v n k w1) (hv : InR v lo h') (h1 : g ≤ lo) (h2 : h' ≤ hi) : LKept w g hi w1 :=
  ⟨fun B w0 hb hB => markBelow (h.1 B w0 hb hB) hm hv (by omega) (by rw [h.2.2]; omega), fun base' e' size' n' u xs lo' hi' hu hi1 hd => markKept (h.kept hu hi1 hd) hm hv hi1 (by omega), by rw [hm.2.1, h.2.2]⟩

end Go.Proofs.YtgebjnoicgmdoaaGreatDoor

namespace Go.Proofs.YtgebjnoicgmdoaaGreatDoor
open Go.RowKit

set_option maxHeartbeats 800000 in
theorem markTokS_big (w : World) (base : Nat) (A : Option Addr) (n c : Nat) (xs : List Value) (hown : w.ownsRow base 51 2 (.slice A n c) n xs) (k : Nat) (hn : n ≤ 3000000) (hk : k ≤ 4000000) :
    Calls Tryz.prog 40 #[.slice A n c, .int .i64 k] w fun e w' => e = .returned (.int .i64 ((k + n * 2 : Nat) : Int)) ∧ MarkOut w base 51 2 (.slice A n c) n k w' := by
  by_cases h0 : n = 0
  · subst h0
    have HO := Lib.hid (own_empty hown k)
    clear hown
    go_enter Tryz.func40, Tryz.ntmps40
    go_wp2
    go_loop [1, 5] (fun m i => m = .int .i64 k ∧ i = .int .i64 0) (fun _ _ => 0)
    case atStart => exact ⟨rfl, rfl⟩
    case round =>
      obtain ⟨rfl, rfl⟩ := hrel
      go_wp2
      go_ret
      exact ⟨rfl, World.grownBy.refl _ _, rfl, HO.out⟩
  · rcases hown.2 with ⟨_, h⟩ | ⟨g, cap, cur, hv, hb, hgg, h1, h2, h3, h4⟩
    · omega
    · injection hv with e1 e2 e3
      subst e1; subst e3
      have hblk : Blk w g 51 cur := hgg
      have HS : Hid (Marking w g 51 (c * 2) k 0 w) := ⟨World.grownBy.refl _ _, rfl, cur, hblk, h3, by intro i hi; omega⟩
      have HW := Lib.hid hown
      clear hgg hblk h3 h4 hown
      go_enter Tryz.func40, Tryz.ntmps40
      go_wp2
      go_loopw [1, 5] (fun m i wr => ∃ j : Nat, j ≤ n ∧ i = .int .i64 j ∧ m = .int .i64 ((k + j * 2 : Nat) : Int) ∧ Marking w g 51 (c * 2) k (j * 2) wr) (fun _ i _ => n - (intOf i).toNat)
      case atStart => exact ⟨0, Nat.zero_le _, rfl, rfl, HS.out⟩
      case round =>
        obtain ⟨j, hj, rfl, rfl, hM⟩ := hrel
        by_cases hlt : j < n
        · have hM1 := marking_step hM (by omega)
          have HN := Lib.hid (marking_step hM1 (by omega))
          obtain ⟨_, _, cs, hblk, hs, _⟩ := hM
          have f1 := hblk.thawed (j * 2)
          have f2 := hblk.thawed (j * 2 + 1)
          obtain ⟨v1, d1⟩ : ∃ v1, wr.cell? ⟨g, j * 2, none⟩ = some v1 := ⟨_, (hblk.cell _).trans (Array.getElem?_eq_getElem (by omega))⟩
          obtain ⟨v2, d2⟩ : ∃ v2, wr.cell? ⟨g, j * 2 + 1, none⟩ = some v2 := ⟨_, (hblk.cell _).trans (Array.getElem?_eq_getElem (by omega))⟩
          clear hblk hs hM1
          go_wp2
          go_roundw
          case rel => exact ⟨j + 1, by omega, by go_num, by go_num, by
            have h := HN.out
            rw [show (j + 1) * 2 = j * 2 + 1 + 1 by omega]
            simpa [Nat.add_assoc, Int.add_assoc] using h⟩
          case measure => simp [intOf]; omega
        · obtain rfl : j = n := by omega
          have HM := Lib.hid hM
          clear hM
          go_wp2
          go_ret
          have hM := HM.out
          exact ⟨rfl, hM.1, hM.2.1, marked (size := 2) HW.out hM⟩

end Go.Proofs.YtgebjnoicgmdoaaGreatDoor
