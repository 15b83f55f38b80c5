/- The table of residuals: the function that a Once calls, and the Once itself. -/
import Derived.Test.YtghoofgfimeedaaDoorOnce1

namespace Go.Proofs.YtghoofgfimeedaaDoor
open Go.RowKit

set_option maxRecDepth 100000 in
theorem load_word (a : Addr) (d : Int) (w : World) (h0 : w.cell? a = some (.int .u32 d)) :
    Calls Tryd.prog 139 #[.pointer (some a)] w fun e w' => e = .returned (.bool (d != 0)) ∧ w' = w := by
  have hl := run_call_load (P := Tryd.prog) Tryd.func143 (by kernel_rfl) (by kernel_rfl) (by kernel_rfl) .u32 (by kernel_rfl) h0
  go_enter Tryd.func139, Tryd.ntmps139
  go_wp2
  go_ret
  exact ⟨rfl, rfl⟩

/-- what the function that a Once calls leaves: the residual, laid into the table -/
def TabFilled (w : World) (b j : Nat) (l : List (Int × Int)) (e : Ending) (w' : World) : Prop :=
  e = .returned (.tuple #[]) ∧ ∃ A5 c5 w5, w' = w5.setCell ⟨b, j, none⟩ (.slice A5 l.length c5) ∧ OwnO w5 w.heap.size A5 l.length c5 (tokCells l) ∧ Below w.heap.size w w5

set_option maxRecDepth 100000 in
set_option maxHeartbeats 6400000 in
theorem fill_any (w : World) (B b pt ps S : Nat) (A : Option Addr) (n c : Nat) (l : List (Int × Int)) (T : TypeId) (pv : Value) (cs : Array Value) (h0 : 0 < B) (hB : B ≤ w.heap.size)
    (hl : TokR w B A n l) (hok : Lv.levelOk l = true) (hS : S < 32) (hE : ErrAt w T pv) (hblk : Blk w b 134 cs) (hcs : cs.size = 129) (ht : cs[0]? = some (.slice A n c))
    (hp : w.cell? ⟨pt, 0, none⟩ = some (.pointer (some ⟨b, 0, none⟩))) (hs : w.cell? ⟨ps, 0, none⟩ = some (.int .i64 S)) :
    Calls Tryd.prog 132 #[.pointer (some ⟨pt, 0, none⟩), .pointer (some ⟨ps, 0, none⟩)] w (TabFilled w b (97 + S) (Nm.rnorm (Nm.wl S l))) := by
  have hpt := World.block_lt_of_cell? w _ hp
  have hps := World.block_lt_of_cell? w _ hs
  have hbt := hblk.lt
  have ht0 : w.cell? ⟨b, 0, none⟩ = some (.slice A n c) := (hblk.cell 0).trans ht
  have hsg : Sg.isSign (S : Int) = true := by simp [Sg.isSign]; omega
  have n1 : (0 : Int) ≤ (S : Int) := by omega
  have n2 : (S : Int) < 32 := by omega
  have HR : ∀ wx : World, Below w.heap.size w wx → Hid (Calls Tryd.prog 77 #[.slice A n c, .int .i64 S] wx (ResAO wx (Nm.rnorm (Nm.wl S l)))) := fun wx hx =>
    residualOf_any wx B A n c l S T pv h0 (Nat.le_trans hB hx.size) (hl.below (hx.mono hB)) hok hsg (hE.below (hx.mono hB) h0)
  have HBLK := Lib.hid hblk
  have HP := Lib.hid hp
  have HS := Lib.hid hs
  clear hblk hl hE
  go_enter Tryd.func132, Tryd.ntmps132
  go_wp2_with fail
  go_region_law (first
    | (go_simp
       go_at_call 77
       refine (HR _ (Below.refl _ _).drew).out.mono ?_
       rintro e w5 ⟨A5, c5, rfl, ho5, hb5⟩
       have hb05 : Below w.heap.size w w5 := Below.trans (Below.refl _ _).drew (hb5.mono (by simp))
       have hk5 := HBLK.out.below hb05 hbt
       have q1 := (hb05.cell (p := ⟨pt, 0, none⟩) hpt).trans HP.out
       have q2 := (hb05.cell (p := ⟨ps, 0, none⟩) hps).trans HS.out
       obtain ⟨x5, q3⟩ : ∃ x, w5.cell? ⟨b, 97 + S, none⟩ = some x := ⟨cs[97 + S], by rw [hk5.cell]; exact Array.getElem?_eq_getElem (by omega)⟩
       have f3 := hk5.thawed (97 + S)
       have HF : Hid (OwnO w5 w.heap.size A5 (Nm.rnorm (Nm.wl S l)).length c5 (tokCells (Nm.rnorm (Nm.wl S l)))) := at_base ho5 (by simp)
       have HB5 := Lib.hid hb05
       clear ho5 hb5 hk5 hb05))
  all_goals
    clear HR
    go_end0
    exact ⟨rfl, A5, c5, w5, rfl, HF.out, HB5.out⟩
end Go.Proofs.YtghoofgfimeedaaDoor
