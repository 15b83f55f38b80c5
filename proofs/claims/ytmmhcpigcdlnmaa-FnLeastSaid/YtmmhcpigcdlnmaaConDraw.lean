/- Facts for the cursor's draw of a constraint. -/
import Derived.Test.YtmmhcpigcdlnmaaCur2
import Derived.Test.YtmmhcpigcdlnmaaCoMem
import Derived.Deep.RegionHeld3

namespace Go.Proofs.Ytmmhcpigcdlnmaa
open Go.RowKit
open Cs (Cn)

/-- the six relations that con draws from -/
def rel6 (i : Nat) : Int := if i < 3 then 0 else if i < 5 then 1 else 2
theorem c6cell (i : Nat) (h : i < 6) (X : World) : (X.alloc (.cells #[.int .i64 0, .int .i64 0, .int .i64 0, .int .i64 1, .int .i64 1, .int .i64 2] 3)).cell? ⟨X.heap.size, i, none⟩ = some (.int .i64 (rel6 i)) := by
  have hb : Blk (X.alloc (.cells #[.int .i64 0, .int .i64 0, .int .i64 0, .int .i64 1, .int .i64 1, .int .i64 2] 3)) X.heap.size 3 #[.int .i64 0, .int .i64 0, .int .i64 0, .int .i64 1, .int .i64 1, .int .i64 2] := Blk.made _ _ _
  rw [hb.cell]
  obtain rfl | rfl | rfl | rfl | rfl | rfl : i = 0 ∨ i = 1 ∨ i = 2 ∨ i = 3 ∨ i = 4 ∨ i = 5 := by omega
  all_goals rfl
theorem kpCell {bc g i : Nat} {a b : World} {v : Value} (hk : Kp bc a b) (hc : a.cell? ⟨g, i, none⟩ = some v) (hne : g ≠ bc) : b.cell? ⟨g, i, none⟩ = some v := by
  have hlt := World.block_lt_of_cell? a _ hc
  have h := hk.block g hlt (fun e => hne (by injection e with e))
  rw [← hc]
  simp only [World.cell?, h]
theorem alcC {X : World} {g i : Nat} {v : Value} (h : X.cell? ⟨g, i, none⟩ = some v) (o : Obj) : (X.alloc o).cell? ⟨g, i, none⟩ = some v := by
  have hlt := World.block_lt_of_cell? X _ h
  rw [← h]
  exact ((Below.refl X.heap.size X).alloc (Nat.le_refl _) o).cell (p := ⟨g, i, none⟩) hlt

theorem st3 {X : World} {g b : Nat} {u v0 v1 v2 : Value} (h : X.cell? ⟨g, 0, none⟩ = some u) (hne : g ≠ b) : (((X.setCell ⟨b, 0, none⟩ v0).setCell ⟨b, 1, none⟩ v1).setCell ⟨b, 2, none⟩ v2).cell? ⟨g, 0, none⟩ = some u := by
  have hlt := World.block_lt_of_cell? X _ h
  have hw : X.grownBy (((X.setCell ⟨b, 0, none⟩ v0).setCell ⟨b, 1, none⟩ v1).setCell ⟨b, 2, none⟩ v2) (some b) := by
    refine ⟨rfl, rfl, rfl, by simp [World.setCell], fun k _ hk => ?_⟩
    have hk' : k ≠ b := fun e => hk (by rw [e])
    rw [Below.heap_setCell _ _ _ _ hk', Below.heap_setCell _ _ _ _ hk', Below.heap_setCell _ _ _ _ hk']
  have := hw.block g hlt (fun e => hne (by injection e with e))
  rw [← h]
  simp only [World.cell?, this]
theorem c6cell1 (i : Nat) (h : i < 6) (X : World) (o : Obj) : ((X.alloc o).alloc (.cells #[.int .i64 0, .int .i64 0, .int .i64 0, .int .i64 1, .int .i64 1, .int .i64 2] 3)).cell? ⟨X.heap.size + 1, i, none⟩ = some (.int .i64 (rel6 i)) := by
  have := c6cell i h (X.alloc o)
  rw [World.size_alloc] at this
  exact this
theorem c6cell2 (i : Nat) (h : i < 6) (X : World) (o : Obj) : ((X.alloc (.cells #[.int .i64 0, .int .i64 0, .int .i64 0, .int .i64 1, .int .i64 1, .int .i64 2] 3)).alloc o).cell? ⟨X.heap.size, i, none⟩ = some (.int .i64 (rel6 i)) := alcC (c6cell i h X) o
theorem con0 (i : Nat) (h : i < 3) (X : World) : (X.alloc (.cells #[.int .i64 0, .int .i64 0, .int .i64 0] 34)).cell? ⟨X.heap.size, i, none⟩ = some (.int .i64 0) ∧ (X.alloc (.cells #[.int .i64 0, .int .i64 0, .int .i64 0] 34)).frozen? ⟨X.heap.size, i, none⟩ = false := by
  have hb : Blk (X.alloc (.cells #[.int .i64 0, .int .i64 0, .int .i64 0] 34)) X.heap.size 34 #[.int .i64 0, .int .i64 0, .int .i64 0] := Blk.made _ _ _
  refine ⟨?_, hb.thawed i⟩
  rw [hb.cell]
  obtain rfl | rfl | rfl : i = 0 ∨ i = 1 ∨ i = 2 := by omega
  all_goals rfl
theorem con1 (i : Nat) (h : i < 3) (X : World) (o : Obj) : ((X.alloc (.cells #[.int .i64 0, .int .i64 0, .int .i64 0] 34)).alloc o).cell? ⟨X.heap.size, i, none⟩ = some (.int .i64 0) ∧ ((X.alloc (.cells #[.int .i64 0, .int .i64 0, .int .i64 0] 34)).alloc o).frozen? ⟨X.heap.size, i, none⟩ = false := by
  have hb : Blk (X.alloc (.cells #[.int .i64 0, .int .i64 0, .int .i64 0] 34)) X.heap.size 34 #[.int .i64 0, .int .i64 0, .int .i64 0] := Blk.made _ _ _
  exact ⟨alcC (con0 i h X).1 o, (hb.alloc o).thawed i⟩
theorem con2 (i : Nat) (h : i < 3) (X : World) (o : Obj) : ((X.alloc o).alloc (.cells #[.int .i64 0, .int .i64 0, .int .i64 0] 34)).cell? ⟨X.heap.size + 1, i, none⟩ = some (.int .i64 0) ∧ ((X.alloc o).alloc (.cells #[.int .i64 0, .int .i64 0, .int .i64 0] 34)).frozen? ⟨X.heap.size + 1, i, none⟩ = false := by
  have := con0 i h (X.alloc o)
  rw [World.size_alloc] at this
  exact this
theorem kpAll {bc : Nat} {a b : World} (hk : Kp bc a b) : ∀ g i, g < a.heap.size → g ≠ bc → b.cell? ⟨g, i, none⟩ = a.cell? ⟨g, i, none⟩ := fun g i hg hne => by
  have h := hk.block g hg (fun e => hne (by injection e with e))
  simp only [World.cell?, h]
theorem kpFz {bc : Nat} {a b : World} (hk : Kp bc a b) : ∀ g i, g < a.heap.size → g ≠ bc → b.frozen? ⟨g, i, none⟩ = a.frozen? ⟨g, i, none⟩ := fun g i hg hne => by
  have h := hk.block g hg (fun e => hne (by injection e with e))
  simp only [World.frozen?, h]
theorem pick3_any (w : World) (bc : Nat) (A : Option Addr) (n c K : Nat) (hc : Cur w bc A n c K) (hK : K ≤ 1000000) (hn : n ≤ 1048576) :
    Calls Try.prog 64 #[.pointer (some ⟨bc, 0, none⟩), .int .i64 3] w fun e w' => ∃ r : Nat, e = .returned (.int .i64 r) ∧ r < 3 ∧ Cur w' bc A n c (K + 1) ∧ Kp bc w w' := by
  refine (pick_any w bc A n c K 3 hc hK (by omega) hn).mono ?_
  rintro e w' ⟨r, rfl, hr, h1, h2⟩
  exact ⟨r, rfl, by omega, h1, h2⟩
theorem pick4_any (w : World) (bc : Nat) (A : Option Addr) (n c K : Nat) (hc : Cur w bc A n c K) (hK : K ≤ 1000000) (hn : n ≤ 1048576) :
    Calls Try.prog 64 #[.pointer (some ⟨bc, 0, none⟩), .int .i64 4] w fun e w' => ∃ r : Nat, e = .returned (.int .i64 r) ∧ r < 4 ∧ Cur w' bc A n c (K + 1) ∧ Kp bc w w' := by
  refine (pick_any w bc A n c K 4 hc hK (by omega) hn).mono ?_
  rintro e w' ⟨r, rfl, hr, h1, h2⟩
  exact ⟨r, rfl, by omega, h1, h2⟩
theorem pick5_any (w : World) (bc : Nat) (A : Option Addr) (n c K : Nat) (hc : Cur w bc A n c K) (hK : K ≤ 1000000) (hn : n ≤ 1048576) :
    Calls Try.prog 64 #[.pointer (some ⟨bc, 0, none⟩), .int .i64 5] w fun e w' => ∃ r : Nat, e = .returned (.int .i64 r) ∧ r < 5 ∧ Cur w' bc A n c (K + 1) ∧ Kp bc w w' := by
  refine (pick_any w bc A n c K 5 hc hK (by omega) hn).mono ?_
  rintro e w' ⟨r, rfl, hr, h1, h2⟩
  exact ⟨r, rfl, by omega, h1, h2⟩
theorem pick6_any (w : World) (bc : Nat) (A : Option Addr) (n c K : Nat) (hc : Cur w bc A n c K) (hK : K ≤ 1000000) (hn : n ≤ 1048576) :
    Calls Try.prog 64 #[.pointer (some ⟨bc, 0, none⟩), .int .i64 6] w fun e w' => ∃ r : Nat, e = .returned (.int .i64 r) ∧ r < 6 ∧ Cur w' bc A n c (K + 1) ∧ Kp bc w w' := by
  refine (pick_any w bc A n c K 6 hc hK (by omega) hn).mono ?_
  rintro e w' ⟨r, rfl, hr, h1, h2⟩
  exact ⟨r, rfl, by omega, h1, h2⟩
theorem pick9_any (w : World) (bc : Nat) (A : Option Addr) (n c K : Nat) (hc : Cur w bc A n c K) (hK : K ≤ 1000000) (hn : n ≤ 1048576) :
    Calls Try.prog 64 #[.pointer (some ⟨bc, 0, none⟩), .int .i64 9] w fun e w' => ∃ r : Nat, e = .returned (.int .i64 r) ∧ r < 9 ∧ Cur w' bc A n c (K + 1) ∧ Kp bc w w' := by
  refine (pick_any w bc A n c K 9 hc hK (by omega) hn).mono ?_
  rintro e w' ⟨r, rfl, hr, h1, h2⟩
  exact ⟨r, rfl, by omega, h1, h2⟩

end Go.Proofs.Ytmmhcpigcdlnmaa
