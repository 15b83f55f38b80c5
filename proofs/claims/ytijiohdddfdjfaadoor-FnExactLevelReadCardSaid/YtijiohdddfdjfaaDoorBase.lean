/- The machine's struct with its stack. -/
import Derived.Test.YtijiohdddfdjfaaDoorMem
namespace Go.Proofs.YtijiohdddfdjfaaDoor
open Go.RowKit

/-- every block of another element type than int and machine is as it was -/
def Keeps (w w' : World) : Prop := ∀ (k : Nat) (cs : Array Value) (t : TypeId) (fr : Nat × Nat), w.heap[k]? = some (.cells cs t fr) → t ≠ 3 → t ≠ 60 → w'.heap[k]? = some (.cells cs t fr)

section
variable {w w' w'' : World}
theorem Keeps.refl (w : World) : Keeps w w := fun _ _ _ _ h _ _ => h
theorem Keeps.trans (h : Keeps w w') (h' : Keeps w' w'') : Keeps w w'' := fun k cs t fr hk h1 h2 => h' k cs t fr (h k cs t fr hk h1 h2) h1 h2
theorem Keeps.alloc (h : Keeps w w') (o : Obj) : Keeps w (w'.alloc o) := fun k cs t fr hk h1 h2 => by
  have h3 := h k cs t fr hk h1 h2
  rw [Below.heap_alloc w' o k (Array.getElem?_eq_some_iff.1 h3).1]
  exact h3
theorem Keeps.grown {row : Option Nat} (h : Keeps w w') (hg : w'.grownBy w'' row) (hr : ∀ g, row = some g → ∃ cs, Blk w' g 3 cs) : Keeps w w'' := fun k cs t fr hk h1 h2 => by
  have h3 := h k cs t fr hk h1 h2
  rw [hg.block k (Array.getElem?_eq_some_iff.1 h3).1 (fun e => by
    obtain ⟨cs', hb⟩ := hr k e.symm
    have e := Eq.trans (Eq.symm h3) hb
    injection e with e
    injection e with _ e2
    exact h1 e2)]
  exact h3
theorem Keeps.store (h : Keeps w w') {p : Addr} {cs' : Array Value} (hb : Blk w' p.block 60 cs') (u : Value) : Keeps w (w'.setCell p u) := fun k cs t fr hk h1 h2 => by
  have h3 := h k cs t fr hk h1 h2
  rw [Below.heap_setCell w' p u k (fun e => by
    subst e
    have e := Eq.trans (Eq.symm h3) hb
    injection e with e
    injection e with _ e2
    exact h2 e2)]
  exact h3
theorem Keeps.blk {g : Nat} {t : TypeId} {cs : Array Value} (h : Keeps w w') (hb : Blk w g t cs) (h1 : t ≠ 3) (h2 : t ≠ 60) : Blk w' g t cs := h g cs t (0, 0) hb h1 h2
end

/-- the cells of the machine's struct -/
def machCells (env : List Int) (sv : Value) : Array Value := (env.map (Value.int .i64) ++ [sv]).toArray

/-- block bm holds the machine: its env, and a stack of its own above B (its top first in st) -/
def Mach (w : World) (B bm : Nat) (env st : List Int) : Prop :=
  B ≤ bm ∧ env.length = 5 ∧ ∃ (A : Option Addr) (c : Nat), Blk w bm 60 (machCells env (.slice A st.length c)) ∧
    w.ownsRow B 3 1 (.slice A st.length c) st.length (st.reverse.map (Value.int .i64))

theorem mach_stack (env : List Int) (sv : Value) (h : env.length = 5) : (machCells env sv)[5]? = some sv := by
  simp [machCells, h]
theorem mach_env (env : List Int) (sv : Value) (h : env.length = 5) (i : Nat) (hi : i < 5) : (machCells env sv)[i]? = some (.int .i64 (env.getD i 0)) := by
  have hl : i < env.length := by omega
  simp [machCells, List.getElem?_append, hl]
theorem mach_put (env : List Int) (sv sv' : Value) (h : env.length = 5) : (machCells env sv).setIfInBounds 5 sv' = machCells env sv' := by
  simp [machCells, h]

/-- what the variable errLevel holds -/
def ErrAt (w : World) (T : TypeId) (pv : Value) : Prop := w.cell? ⟨0, 0, none⟩ = some (.iface T pv)
theorem ErrAt.below {w w' : World} {B : Nat} {T : TypeId} {pv : Value} (h : ErrAt w T pv) (hb : Below B w w') (hB : 0 < B) : ErrAt w' T pv := (hb.cell (p := ⟨0, 0, none⟩) hB).trans h

set_option maxHeartbeats 400000 in
theorem push_any (w : World) (B bm : Nat) (env st : List Int) (v : Int) (hm : Mach w B bm env st) (hs : st.length ≤ 1000) :
    Calls Tryd.prog 111 #[.pointer (some ⟨bm, 0, none⟩), .int .i64 v] w fun e w' => e = .returned (.tuple #[]) ∧ Mach w' B bm env (v :: st) ∧ Below B w w' ∧ Keeps w w' := by
  obtain ⟨hB, he, A, c, hblk, hown⟩ := hm
  have hlt := hblk.lt
  have hc5 : w.cell? ⟨bm, 5, none⟩ = some (.slice A st.length c) := (hblk.cell 5).trans (mach_stack env _ he)
  obtain ⟨i0, hi, hz0, hz1, hz2⟩ := info_parts info_int
  have HE := Lib.hid he
  clear he
  go_enter Tryd.func111, Tryd.ntmps111
  go_wp2_with (at_builtin; refine wpList_append_own _ rfl (.tmp 8) (.tmp 10) 27 rfl B 3 i0 (.int .i64 0) 1 8 Tryd.underlying27 hi hz0 hz1 hz2 rfl (by decide) (.slice A st.length c) st.length (st.reverse.map (Value.int .i64)) rfl (hown.alloc _) ⟨w.heap.size, 0, none⟩ 1 1 [.int .i64 v] rfl rfl ?c1 ?c2 ?c3 ?c4 ?c5 ?c6)
  case c1 => exact cell_one_new _ _ _
  case c2 => intro u hu; simp at hu; subst hu; rfl
  case c3 => unfold maxLen; omega
  case c4 => omega
  case c5 => simp; omega
  case c6 =>
    intro v' w1 hown' hgrow _
    obtain ⟨g, cap', rfl⟩ : ∃ g cap', v' = .slice (some ⟨g, 0, none⟩) (st.length + 1) cap' := by
      rcases hown'.2 with ⟨_, h⟩ | ⟨g, cap', _, h, _⟩
      · omega
      · exact ⟨g, cap', h⟩
    have hap := own_apart hown hblk (by decide)
    have hblk1 : Blk w1 bm 60 (machCells env (.slice A st.length c)) := (hblk.alloc _).grown hgrow (fun h => hap h.symm)
    have hk : w1.cell? ⟨bm, 5, none⟩ = some (.slice A st.length c) := (hblk1.cell 5).trans (mach_stack env _ HE.out)
    have hf := hblk1.thawed 5
    have hbel : Below B w w1 := (((Below.refl _ _).alloc (by omega) _)).grown hgrow (by simp; omega) (fun k h => (hown.lt k h).1)
    have hown2 := own_store (p := ⟨bm, 5, none⟩) hown' (own_apart hown' hblk1 (by decide)) (.slice (some ⟨g, 0, none⟩) (st.length + 1) cap')
    have hblk2 := hblk1.put 5 (.slice (some ⟨g, 0, none⟩) (st.length + 1) cap')
    have hbel2 := hbel.setCell (p := ⟨bm, 5, none⟩) hB (.slice (some ⟨g, 0, none⟩) (st.length + 1) cap')
    have hkp : Keeps w w1 := ((Keeps.refl w).alloc _).grown hgrow (fun g hg => own_blk (hown.alloc _) g hg)
    have hkp2 := hkp.store (p := ⟨bm, 5, none⟩) hblk1 (.slice (some ⟨g, 0, none⟩) (st.length + 1) cap')
    have H2 := Lib.hid hown2
    have H3 := Lib.hid hblk2
    have H4 := Lib.hid hkp2
    clear hkp hkp2
    clear hown2 hblk2 hgrow hown' hown hap
    go_wp2
    go_end0
    refine ⟨rfl, ⟨hB, HE.out, some ⟨g, 0, none⟩, cap', ?_, ?_⟩, hbel2, H4.out⟩
    · have h3 := H3.out
      rw [mach_put env _ _ HE.out] at h3
      exact h3
    · have h2 := H2.out
      simpa using h2
end Go.Proofs.YtijiohdddfdjfaaDoor
