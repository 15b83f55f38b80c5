/- The machine's methods: each does what one step on the stack says, or panics with errLevel. -/
import Derived.Test.YtijiohdddfdjfaaDoorBase
namespace Go.Proofs.YtijiohdddfdjfaaDoor
open Go.RowKit

/-- the panic with errLevel -/
def Bad (T : TypeId) (pv : Value) : Ending := .panicked [{ v := .iface T pv, recovered := false }]

/-- a row of n + 1 cells, cut to n -/
theorem own_pop {w : World} {base g cap n : Nat} {e : TypeId} {xs : List Value} {x : Value} (h : w.ownsRow base e 1 (.slice (some ⟨g, 0, none⟩) (n + 1) cap) (n + 1) (xs ++ [x])) :
    w.ownsRow base e 1 (.slice (some ⟨g, 0, none⟩) n cap) n xs := by
  have hl := h.1
  simp at hl
  rcases h.2 with ⟨h0, _⟩ | ⟨g', cap', cur, hv, hb, hgg, h1, h2, h3, h4⟩
  · cases h0
  · injection hv with e1 e2 e3
    injection e1 with e1
    injection e1 with e1
    subst e1; subst e3
    refine ⟨by omega, .inr ⟨g, cap, cur, rfl, hb, hgg, by omega, h2, h3, ?_⟩⟩
    have := congrArg (List.take n) h4
    rw [List.take_take] at this
    rw [show min n ((n + 1) * 1) = n * 1 by omega] at this
    rw [this, ← hl, List.take_left']
    rfl

set_option maxHeartbeats 400000 in
theorem pop_some (w : World) (B bm : Nat) (env st : List Int) (v : Int) (hm : Mach w B bm env (v :: st)) (hs : st.length ≤ 1000) :
    Calls Tryd.prog 77 #[.pointer (some ⟨bm, 0, none⟩)] w fun e w' => e = .returned (.int .i64 v) ∧ Mach w' B bm env st ∧ Below B w w' ∧ Keeps w w' := by
  obtain ⟨hB, he, A, c, hblk, hown⟩ := hm
  have hlt := hblk.lt
  obtain ⟨g, rfl⟩ : ∃ g, A = some ⟨g, 0, none⟩ := by
    rcases hown.2 with ⟨_, h⟩ | ⟨g, cap', _, h, _⟩
    · simp at h
    · injection h with h1; exact ⟨g, h1⟩
  have hcap : st.length + 1 ≤ c := by
    rcases hown.2 with ⟨_, h⟩ | ⟨g, cap', _, h, _, _, h1, _⟩
    · simp at h
    · injection h with _ _ h3; simpa [h3] using h1
  have hc5 : w.cell? ⟨bm, 5, none⟩ = some (.slice (some ⟨g, 0, none⟩) (st.length + 1) c) := (hblk.cell 5).trans (mach_stack env _ he)
  have hcv : w.cell? ⟨g, st.length, none⟩ = some (.int .i64 v) := by
    have h := hown.cells (g := g) rfl st.length (.int .i64 v) (by simp)
    have hadd : (⟨g, 0, none⟩ : Addr).add st.length = ⟨g, st.length, none⟩ := by unfold Addr.add; split <;> simp_all
    rw [hadd] at h
    exact h
  have hf := hblk.thawed 5
  have hown1 := own_pop (n := st.length) (xs := st.reverse.map (Value.int .i64)) (x := .int .i64 v) (by simpa using hown)
  have H2 := Lib.hid (own_store (p := ⟨bm, 5, none⟩) hown1 (own_apart hown1 hblk (by decide)) (.slice (some ⟨g, 0, none⟩) st.length c))
  have H3 := Lib.hid (hblk.put 5 (.slice (some ⟨g, 0, none⟩) st.length c))
  have H4 := Lib.hid ((Keeps.refl w).store (p := ⟨bm, 5, none⟩) hblk (.slice (some ⟨g, 0, none⟩) st.length c))
  have HE := Lib.hid he
  clear he hown hown1
  go_enter Tryd.func77, Tryd.ntmps77
  go_wp2
  go_ret
  refine ⟨rfl, ⟨hB, HE.out, some ⟨g, 0, none⟩, c, ?_, ?_⟩, (Below.refl _ _).setCell (p := ⟨bm, 5, none⟩) hB _, H4.out⟩
  · have h3 := H3.out
    rw [mach_put env _ _ HE.out] at h3
    exact h3
  · exact H2.out

set_option maxHeartbeats 400000 in
theorem pop_none (w : World) (B bm : Nat) (env : List Int) (T : TypeId) (pv : Value) (hm : Mach w B bm env []) (hE : ErrAt w T pv) :
    Calls Tryd.prog 77 #[.pointer (some ⟨bm, 0, none⟩)] w fun e w' => e = Bad T pv ∧ w = w' := by
  obtain ⟨hB, he, A, c, hblk, hown⟩ := hm
  have hc5 : w.cell? ⟨bm, 5, none⟩ = some (.slice A 0 c) := (hblk.cell 5).trans (mach_stack env _ he)
  unfold ErrAt at hE
  clear he hown hblk
  go_enter Tryd.func77, Tryd.ntmps77
  go_wp2
  exact ⟨rfl, rfl, rfl⟩

set_option maxHeartbeats 400000 in
theorem needZero_yes (n : Int) (w : World) (h : n = 0) :
    Calls Tryd.prog 110 #[.int .i64 n] w fun e w' => e = .returned (.tuple #[]) ∧ w = w' := by
  subst h
  go_enter Tryd.func110, Tryd.ntmps110
  go_wp2
  go_end0
  exact ⟨rfl, rfl⟩

set_option maxHeartbeats 400000 in
theorem needZero_no (n : Int) (w : World) (T : TypeId) (pv : Value) (h : n ≠ 0) (hE : ErrAt w T pv) :
    Calls Tryd.prog 110 #[.int .i64 n] w fun e w' => e = Bad T pv ∧ w = w' := by
  have h1 : (n != 0) = true := by simpa using h
  unfold ErrAt at hE
  go_enter Tryd.func110, Tryd.ntmps110
  go_wp2
  exact ⟨rfl, rfl, rfl⟩
end Go.Proofs.YtijiohdddfdjfaaDoor
