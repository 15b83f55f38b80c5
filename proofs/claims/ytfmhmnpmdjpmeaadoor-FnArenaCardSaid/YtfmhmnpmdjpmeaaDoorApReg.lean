/- The machine's methods: each does what one step on the stack says, or panics with errLevel. -/
/- The arena's index, whether the node is there or not; its stack in a variable of the closure; the region that puts a place on it. -/
import Derived.Test.YtfmhmnpmdjpmeaaDoorBase
import Derived.Test.YtfmhmnpmdjpmeaaDoorNdMv

namespace Go.Proofs.YtfmhmnpmdjpmeaaDoor
open Go.RowKit

/-- the panic with errLevel -/
def Bad (T : TypeId) (pv : Value) : Ending := .panicked [{ v := .iface T pv, recovered := false }]

/-- a row of n + 1 cells, cut to n -/
theorem own_pop {w : World} {base g cap n : Nat} {e : TypeId} {xs : List Value} {x : Value} (h : w.ownsRow base e 1 (.slice (some ⟨g, 0, none⟩) (n + 1) cap) (n + 1) (xs ++ [x])) :
    w.ownsRow base e 1 (.slice (some ⟨g, 0, none⟩) n cap) n xs := by
  have hl := h.1
  simp at hl
  rcases h.2 with ⟨h0, _⟩ | ⟨g', cap', cur, hv, hb, hgg, h1, h2, h3, h4⟩
  · cases h0
  · injection hv with e1 e2 e3
    injection e1 with e1
    injection e1 with e1
    subst e1; subst e3
    refine ⟨by omega, .inr ⟨g, cap, cur, rfl, hb, hgg, by omega, h2, h3, ?_⟩⟩
    have := congrArg (List.take n) h4
    rw [List.take_take] at this
    rw [show min n ((n + 1) * 1) = n * 1 by omega] at this
    rw [this, ← hl, List.take_left']
    rfl

set_option maxHeartbeats 400000 in
theorem pop_some (w : World) (B bm : Nat) (env st : List Int) (v : Int) (hm : Mach w B bm env (v :: st)) (hs : st.length ≤ 1000) :
    Calls Tryd.prog 72 #[.pointer (some ⟨bm, 0, none⟩)] w fun e w' => e = .returned (.int .i64 v) ∧ Mach w' B bm env st ∧ Below B w w' ∧ Keeps w w' := by
  obtain ⟨hB, he, A, c, hblk, hown⟩ := hm
  have hlt := hblk.lt
  obtain ⟨g, rfl⟩ : ∃ g, A = some ⟨g, 0, none⟩ := by
    rcases hown.2 with ⟨_, h⟩ | ⟨g, cap', _, h, _⟩
    · simp at h
    · injection h with h1; exact ⟨g, h1⟩
  have hcap : st.length + 1 ≤ c := by
    rcases hown.2 with ⟨_, h⟩ | ⟨g, cap', _, h, _, _, h1, _⟩
    · simp at h
    · injection h with _ _ h3; simpa [h3] using h1
  have hc5 : w.cell? ⟨bm, 5, none⟩ = some (.slice (some ⟨g, 0, none⟩) (st.length + 1) c) := (hblk.cell 5).trans (mach_stack env _ he)
  have hcv : w.cell? ⟨g, st.length, none⟩ = some (.int .i64 v) := by
    have h := hown.cells (g := g) rfl st.length (.int .i64 v) (by simp)
    have hadd : (⟨g, 0, none⟩ : Addr).add st.length = ⟨g, st.length, none⟩ := by unfold Addr.add; split <;> simp_all
    rw [hadd] at h
    exact h
  have hf := hblk.thawed 5
  have hown1 := own_pop (n := st.length) (xs := st.reverse.map (Value.int .i64)) (x := .int .i64 v) (by simpa using hown)
  have H2 := Lib.hid (own_store (p := ⟨bm, 5, none⟩) hown1 (own_apart hown1 hblk (by decide)) (.slice (some ⟨g, 0, none⟩) st.length c))
  have H3 := Lib.hid (hblk.put 5 (.slice (some ⟨g, 0, none⟩) st.length c))
  have H4 := Lib.hid ((Keeps.refl w).store (p := ⟨bm, 5, none⟩) hblk (.slice (some ⟨g, 0, none⟩) st.length c))
  have HE := Lib.hid he
  clear he hown hown1
  go_enter Tryd.func72, Tryd.ntmps72
  go_wp2
  go_ret
  refine ⟨rfl, ⟨hB, HE.out, some ⟨g, 0, none⟩, c, ?_, ?_⟩, (Below.refl _ _).setCell (p := ⟨bm, 5, none⟩) hB _, H4.out⟩
  · have h3 := H3.out
    rw [mach_put env _ _ HE.out] at h3
    exact h3
  · exact H2.out

set_option maxHeartbeats 400000 in
theorem pop_none (w : World) (B bm : Nat) (env : List Int) (T : TypeId) (pv : Value) (hm : Mach w B bm env []) (hE : ErrAt w T pv) :
    Calls Tryd.prog 72 #[.pointer (some ⟨bm, 0, none⟩)] w fun e w' => e = Bad T pv ∧ w = w' := by
  obtain ⟨hB, he, A, c, hblk, hown⟩ := hm
  have hc5 : w.cell? ⟨bm, 5, none⟩ = some (.slice A 0 c) := (hblk.cell 5).trans (mach_stack env _ he)
  unfold ErrAt at hE
  clear he hown hblk
  go_enter Tryd.func72, Tryd.ntmps72
  go_wp2
  exact ⟨rfl, rfl, rfl⟩

set_option maxHeartbeats 400000 in
theorem needZero_yes (n : Int) (w : World) (h : n = 0) :
    Calls Tryd.prog 119 #[.int .i64 n] w fun e w' => e = .returned (.tuple #[]) ∧ w = w' := by
  subst h
  go_enter Tryd.func119, Tryd.ntmps119
  go_wp2
  go_end0
  exact ⟨rfl, rfl⟩

set_option maxHeartbeats 400000 in
theorem needZero_no (n : Int) (w : World) (T : TypeId) (pv : Value) (h : n ≠ 0) (hE : ErrAt w T pv) :
    Calls Tryd.prog 119 #[.int .i64 n] w fun e w' => e = Bad T pv ∧ w = w' := by
  have h1 : (n != 0) = true := by simpa using h
  unfold ErrAt at hE
  go_enter Tryd.func119, Tryd.ntmps119
  go_wp2
  exact ⟨rfl, rfl, rfl⟩
end Go.Proofs.YtfmhmnpmdjpmeaaDoor

namespace Go.Proofs.YtfmhmnpmdjpmeaaDoor
open Go.RowKit Go.Maps

theorem index_any (w : World) (base g m : Nat) (A : Option Addr) (n c : Nat) (D : DataW Unit) (l : List Nd) (o u a b : Int) (h : ArO w base g m A n c D l) (hw : ndWf (o, u, a, b)) (hn : n ≤ 1048576) (hbase : base ≤ w.heap.size) :
    Calls Tryd.prog 83 #[.pointer (some ⟨g, 0, none⟩), .agg #[.int .i64 o, .int .i64 u, .int .i64 a, .int .i64 b]] w fun e w' => e = .returned (.int .i64 ((l.idxOf (o, u, a, b) : Nat) : Int)) ∧ Below base w w' ∧ (∃ A' c' D', ArO w' base g m A' (addNd l (o, u, a, b)).length c' D' (addNd l (o, u, a, b))) ∧ ∀ k, k < w.heap.size → k ≠ g → k ≠ m → (Value.slice A n c).ownBlock ≠ some k → w'.heap[k]? = w.heap[k]? := by
  by_cases hm : (o, u, a, b) ∈ l
  · refine (index_in w base g m A n c D l o u a b h hw hm).mono ?_
    rintro e w' ⟨rfl, hb⟩
    refine ⟨rfl, hb.mono hbase, ?_, fun k hk _ _ _ => hb.block k hk⟩
    unfold addNd
    rw [if_pos hm, h.len]
    exact ⟨A, c, D, h.below hb⟩
  · refine (index_new w base g m A n c D l o u a b h hw hm hn hbase).mono ?_
    rintro e w' ⟨rfl, hb, hA, hf⟩
    refine ⟨by rw [List.idxOf_eq_length hm, h.len], hb, ?_, hf⟩
    unfold addNd
    rw [if_neg hm, List.length_append, h.len]
    exact hA
theorem ix_blk {w w' : World} {base g m n c k : Nat} {A : Option Addr} {D : DataW Unit} {l : List Nd} {t : TypeId} {cs : Array Value} (h : ArO w base g m A n c D l) (hfr : ∀ k, k < w.heap.size → k ≠ g → k ≠ m → (Value.slice A n c).ownBlock ≠ some k → w'.heap[k]? = w.heap[k]?)
    (hb : Blk w k t cs) (h1 : t ≠ 85) (h2 : t ≠ 72) : Blk w' k t cs :=
  (hfr k hb.lt (hb.apart h.box h1) (map_apart h.map hb) (own_apart h.row hb (fun e => h2 e.symm))).trans hb
theorem ix_own {w w' : World} {base base' g m n c k size : Nat} {A : Option Addr} {D : DataW Unit} {l : List Nd} {t : TypeId} {v : Value} {xs : List Value} (h : ArO w base g m A n c D l) (hfr : ∀ k, k < w.heap.size → k ≠ g → k ≠ m → (Value.slice A n c).ownBlock ≠ some k → w'.heap[k]? = w.heap[k]?)
    (ho : w.ownsRow base' t size v k xs) (h1 : t ≠ 85) (h2 : t ≠ 72) : w'.ownsRow base' t size v k xs :=
  own_stay ho (fun b hb => by
    obtain ⟨cs, hcs⟩ := own_blk ho b hb
    exact (ix_blk h hfr hcs h1 h2).trans hcs.symm)
theorem ArO.stay {w w' : World} {base g m n c : Nat} {A : Option Addr} {D : DataW Unit} {l : List Nd} (h : ArO w base g m A n c D l) (hs : ∀ k, k < w.heap.size → (∃ cs t, Blk w k t cs ∧ (t = 85 ∨ t = 72)) ∨ k = m → w'.heap[k]? = w.heap[k]?) (hm : m < w.heap.size) : ArO w' base g m A n c D l := by
  refine ⟨h.bg, h.bm, (hs g h.box.lt (.inl ⟨_, _, h.box, .inl rfl⟩)).trans h.box, own_stay h.row (fun b hb => ?_), ?_, h.gn⟩
  · obtain ⟨cs, hcs⟩ := own_blk h.row b hb
    exact hs b hcs.lt (.inl ⟨_, _, hcs, .inr rfl⟩)
  · obtain ⟨es, clock, h1, h2, h3, h4⟩ := h.map
    exact ⟨es, clock, (hs m hm (.inr rfl)).trans h1, h2, h3, h4⟩
theorem ArO.mlt {w : World} {base g m n c : Nat} {A : Option Addr} {D : DataW Unit} {l : List Nd} (h : ArO w base g m A n c D l) : m < w.heap.size := by
  obtain ⟨es, clock, h1, _⟩ := h.map
  exact (Array.getElem?_eq_some_iff.1 h1).1
/-- a block of another type is written -/
theorem ArO.set {w : World} {base g m n c k i : Nat} {A : Option Addr} {D : DataW Unit} {l : List Nd} {t : TypeId} {cs : Array Value} (h : ArO w base g m A n c D l) (hb : Blk w k t cs) (h1 : t ≠ 85) (h2 : k ≠ g → (Value.slice A n c).ownBlock ≠ some k) (v : Value) : ArO (w.setCell ⟨k, i, none⟩ v) base g m A n c D l := by
  have hg : k ≠ g := hb.apart h.box h1
  refine ⟨h.bg, h.bm, (Below.heap_setCell _ _ _ _ (fun e => hg e.symm)).trans h.box, own_store h.row (p := ⟨k, i, none⟩) (h2 hg) _, h.map.setCell (a := ⟨k, i, none⟩) (fun x => map_apart h.map hb x.symm) _, h.gn⟩
/-- a row of another type grows -/
theorem ArO.grow {w w' : World} {base base' g m n c k size : Nat} {A : Option Addr} {D : DataW Unit} {l : List Nd} {t : TypeId} {v : Value} {xs : List Value} (h : ArO w base g m A n c D l) (ho : w.ownsRow base' t size v k xs) (h1 : t ≠ 85) (h2 : t ≠ 72) (hg : w.grownBy w' v.ownBlock) : ArO w' base g m A n c D l := by
  refine h.stay (fun b hb hc => hg.block b hb (fun e => ?_)) h.mlt
  obtain ⟨cs', hcs'⟩ := own_blk ho b e.symm
  rcases hc with ⟨cs, t', hcs, ht⟩ | rfl
  · refine hcs'.apart hcs (fun e => ?_) rfl
    rcases ht with rfl | rfl
    · exact h1 e
    · exact h2 e
  · exact map_apart h.map hcs' rfl

/-- a stack of places (its top first) in a variable that a closure captures -/
def Stk (w : World) (B gs : Nat) (st : List Int) : Prop := B ≤ gs ∧ ∃ (A : Option Addr) (c : Nat), Blk w gs 40 #[.slice A st.length c] ∧ w.ownsRow B 3 1 (.slice A st.length c) st.length (st.reverse.map (Value.int .i64))
theorem Stk.below {w w' : World} {B gs : Nat} {st : List Int} (h : Stk w B gs st) (hb : Below w.heap.size w w') : Stk w' B gs st := by
  obtain ⟨h1, A, c, hblk, hown⟩ := h
  exact ⟨h1, A, c, hblk.below hb hblk.lt, own_below' hown hb⟩
theorem Stk.index {w w' : World} {base g m n c B gs : Nat} {A : Option Addr} {D : DataW Unit} {l : List Nd} {st : List Int} (h : ArO w base g m A n c D l) (hfr : ∀ k, k < w.heap.size → k ≠ g → k ≠ m → (Value.slice A n c).ownBlock ≠ some k → w'.heap[k]? = w.heap[k]?) (hs : Stk w B gs st) : Stk w' B gs st := by
  obtain ⟨h1, A2, c2, hblk, hown⟩ := hs
  exact ⟨h1, A2, c2, ix_blk h hfr hblk (by decide) (by decide), ix_own h hfr hown (by decide) (by decide)⟩
theorem Stk.set {w : World} {B gs k i : Nat} {st : List Int} {t : TypeId} {cs : Array Value} (hs : Stk w B gs st) (hb : Blk w k t cs) (h1 : t ≠ 40) (h2 : t ≠ 3) (v : Value) : Stk (w.setCell ⟨k, i, none⟩ v) B gs st := by
  obtain ⟨h0, A2, c2, hblk, hown⟩ := hs
  have hg : k ≠ gs := hb.apart hblk h1
  exact ⟨h0, A2, c2, (Below.heap_setCell _ _ _ _ (fun e => hg e.symm)).trans hblk, own_store hown (p := ⟨k, i, none⟩) (own_apart hown hb (fun e => h2 e.symm)) _⟩

set_option maxHeartbeats 400000 in
theorem popC_any (w : World) (B gs : Nat) (st : List Int) (v : Int) (h : Stk w B gs (v :: st)) (hs : st.length ≤ 1000) :
    Calls Tryd.prog 97 #[.pointer (some ⟨gs, 0, none⟩)] w fun e w' => e = .returned (.int .i64 v) ∧ Stk w' B gs st ∧ Below B w w' ∧ ∃ (t : TypeId) (cs : Array Value) (u : Value), t = 40 ∧ Blk w gs t cs ∧ w' = w.setCell ⟨gs, 0, none⟩ u := by
  obtain ⟨hB, A, c, hblk, hown⟩ := h
  obtain ⟨g, rfl⟩ : ∃ g, A = some ⟨g, 0, none⟩ := by
    rcases hown.2 with ⟨_, h⟩ | ⟨g, cap', _, h, _⟩
    · simp at h
    · injection h with h1; exact ⟨g, h1⟩
  have hcap : st.length + 1 ≤ c := by
    rcases hown.2 with ⟨_, h⟩ | ⟨g, cap', _, h, _, _, h1, _⟩
    · simp at h
    · injection h with _ _ h3; simpa [h3] using h1
  have hc0 : w.cell? ⟨gs, 0, none⟩ = some (.slice (some ⟨g, 0, none⟩) (st.length + 1) c) := hblk.cell 0
  have hcv : w.cell? ⟨g, st.length, none⟩ = some (.int .i64 v) := by
    have h := hown.cells (g := g) rfl st.length (.int .i64 v) (by simp)
    have hadd : (⟨g, 0, none⟩ : Addr).add st.length = ⟨g, st.length, none⟩ := by unfold Addr.add; split <;> simp_all
    rw [hadd] at h
    exact h
  have hf := hblk.thawed 0
  have hown1 := own_pop (n := st.length) (xs := st.reverse.map (Value.int .i64)) (x := .int .i64 v) (by simpa using hown)
  have H2 := Lib.hid (own_store (p := ⟨gs, 0, none⟩) hown1 (own_apart hown1 hblk (by decide)) (.slice (some ⟨g, 0, none⟩) st.length c))
  have H3 := Lib.hid (hblk.put 0 (.slice (some ⟨g, 0, none⟩) st.length c))
  have HBK := Lib.hid hblk
  clear hown hown1 hblk
  go_enter Tryd.func97, Tryd.ntmps97
  go_wp2
  go_ret
  exact ⟨rfl, ⟨hB, some ⟨g, 0, none⟩, c, H3.out, H2.out⟩, (Below.refl _ _).setCell (p := ⟨gs, 0, none⟩) hB _, _, _, _, rfl, HBK.out, rfl⟩

/-- the region that puts the place of a node on the stack -/
structure PutG (base g m gs nb : Nat) (ns : List Nd) (st : List Int) (x : Nd) (A : Option Addr) (c : Nat) (t38 t39 : Nat) (W : World) (d : Nat → Bool) (f : Nat → Value) (w : World) : Prop where
  bel : Below base W w
  pre : d 3 = false → (∃ A' c' D', ArO w base g m A' ns.length c' D' ns) ∧ Blk w nb 72 #[.int .i64 x.1, .int .i64 x.2.1, .int .i64 x.2.2.1, .int .i64 x.2.2.2]
  post : d 3 = true → ∃ A' c' D', ArO w base g m A' (addNd ns x).length c' D' (addNd ns x)
  row : d 5 = false → w.ownsRow base 3 1 (.slice A st.length c) st.length (st.reverse.map (Value.int .i64))
  box : d 6 = false → Blk w gs 40 #[.slice A st.length c]
  one : d 4 = true → d 5 = false → ∃ h, f t38 = .slice (some ⟨h, 0, none⟩) 1 1 ∧ Blk w h 3 #[.int .i64 ((ns.idxOf x : Nat) : Int)]
  new : d 5 = true → ∃ q k, f t39 = .slice (some ⟨q, 0, none⟩) (st.length + 1) k ∧ w.ownsRow base 3 1 (.slice (some ⟨q, 0, none⟩) (st.length + 1) k) (st.length + 1) (st.reverse.map (Value.int .i64) ++ [.int .i64 ((ns.idxOf x : Nat) : Int)])
  fin : d 6 = true → ∃ q k, f t39 = .slice (some ⟨q, 0, none⟩) (st.length + 1) k ∧ Blk w gs 40 #[.slice (some ⟨q, 0, none⟩) (st.length + 1) k]
section
variable {base g m gs nb c t38 t39 j : Nat} {ns : List Nd} {st : List Int} {x : Nd} {A : Option Addr} {W w w' : World} {d : Nat → Bool} {f : Nat → Value} {s : Option Nat} {v : Value}
theorem PutG.same (h : PutG base g m gs nb ns st x A c t38 t39 W d f w) (j3 : j ≠ 3) (j4 : j ≠ 4) (j5 : j ≠ 5) (j6 : j ≠ 6) (s38 : s ≠ some t38) (s39 : s ≠ some t39) : PutG base g m gs nb ns st x A c t38 t39 W (mark d j) (upd f s v) w := by
  refine ⟨h.bel, fun e => ?_, fun e => ?_, fun e => ?_, fun e => ?_, fun e e5 => ?_, fun e => ?_, fun e => ?_⟩
  · rw [mark_eq j3] at e; exact h.pre e
  · rw [mark_eq j3] at e; exact h.post e
  · rw [mark_eq j5] at e; exact h.row e
  · rw [mark_eq j6] at e; exact h.box e
  · rw [mark_eq j4] at e; rw [mark_eq j5] at e5; rw [upd_other f v s38]; exact h.one e e5
  · rw [mark_eq j5] at e; rw [upd_other f v s39]; exact h.new e
  · rw [mark_eq j6] at e; rw [upd_other f v s39]; exact h.fin e
theorem PutG.called {A1 : Option Addr} {c1 : Nat} {D1 : DataW Unit} (h : PutG base g m gs nb ns st x A c t38 t39 W d f w) (hA : ArO w base g m A1 ns.length c1 D1 ns) (d4 : d 4 = false) (d5 : d 5 = false) (d6 : d 6 = false) (hb : Below base w w') (hn : ∃ A' c' D', ArO w' base g m A' (addNd ns x).length c' D' (addNd ns x))
    (hfr : ∀ k, k < w.heap.size → k ≠ g → k ≠ m → (Value.slice A1 ns.length c1).ownBlock ≠ some k → w'.heap[k]? = w.heap[k]?) : PutG base g m gs nb ns st x A c t38 t39 W (mark d 3) (upd f s v) w' := by
  refine ⟨h.bel.trans hb, fun e => ?_, fun _ => hn, fun _ => ix_own hA hfr (h.row d5) (by decide) (by decide), fun _ => ix_blk hA hfr (h.box d6) (by decide) (by decide), fun e _ => ?_, fun e => ?_, fun e => ?_⟩
  · rw [mark_self] at e; cases e
  · rw [mark_eq (by decide), d4] at e; cases e
  · rw [mark_eq (by decide), d5] at e; cases e
  · rw [mark_eq (by decide), d6] at e; cases e
theorem PutG.made (h : PutG base g m gs nb ns st x A c t38 t39 W d f w) (d3 : d 3 = true) (d5 : d 5 = false) (d6 : d 6 = false) (hbase : base ≤ w.heap.size) : PutG base g m gs nb ns st x A c t38 t39 W (mark d 4) (upd f (some t38) (.slice (some ⟨w.heap.size, 0, none⟩) 1 1)) (w.alloc (.cells #[.int .i64 ((ns.idxOf x : Nat) : Int)] 3)) := by
  have hb : Below w.heap.size w (w.alloc (.cells #[.int .i64 ((ns.idxOf x : Nat) : Int)] 3)) := (Below.refl _ _).alloc (Nat.le_refl _) _
  refine ⟨h.bel.trans (hb.mono hbase), fun e => ?_, fun _ => ?_, fun _ => own_below' (h.row d5) hb, fun _ => (h.box d6).below hb (h.box d6).lt, fun _ _ => ⟨w.heap.size, upd_same _ _ _, Blk.made _ _ _⟩, fun e => ?_, fun e => ?_⟩
  · rw [mark_eq (by decide), d3] at e; cases e
  · obtain ⟨A', c', D', hA⟩ := h.post d3
    exact ⟨A', c', D', hA.below hb⟩
  · rw [mark_eq (by decide), d5] at e; cases e
  · rw [mark_eq (by decide), d6] at e; cases e
theorem PutG.added {q k : Nat} (h : PutG base g m gs nb ns st x A c t38 t39 W d f w) (d3 : d 3 = true) (d5 : d 5 = false) (d6 : d 6 = false) (hbase : base ≤ w.heap.size) (hg : w.grownBy w' (Value.slice A st.length c).ownBlock)
    (ho : w'.ownsRow base 3 1 (.slice (some ⟨q, 0, none⟩) (st.length + 1) k) (st.length + 1) (st.reverse.map (Value.int .i64) ++ [.int .i64 ((ns.idxOf x : Nat) : Int)])) : PutG base g m gs nb ns st x A c t38 t39 W (mark d 5) (upd f (some t39) (.slice (some ⟨q, 0, none⟩) (st.length + 1) k)) w' := by
  have hrow := h.row d5
  refine ⟨h.bel.grown hg hbase (fun x hx => (hrow.lt x hx).1), fun e => ?_, fun _ => ?_, fun e => ?_, fun _ => (h.box d6).grown hg (fun x => own_apart hrow (h.box d6) (by decide) x.symm), fun _ e => ?_, fun _ => ⟨q, k, upd_same _ _ _, ho⟩, fun e => ?_⟩
  · rw [mark_eq (by decide), d3] at e; cases e
  · obtain ⟨A', c', D', hA⟩ := h.post d3
    exact ⟨A', c', D', hA.grow hrow (by decide) (by decide) hg⟩
  · rw [mark_self] at e; cases e
  · rw [mark_self] at e; cases e
  · rw [mark_eq (by decide), d6] at e; cases e
theorem PutG.put {q k : Nat} (h : PutG base g m gs nb ns st x A c t38 t39 W d f w) (d3 : d 3 = true) (d5 : d 5 = true) (d6 : d 6 = false) (hgs : base ≤ gs) (hf : f t39 = .slice (some ⟨q, 0, none⟩) (st.length + 1) k) : PutG base g m gs nb ns st x A c t38 t39 W (mark d 6) (upd f none v) (w.setCell ⟨gs, 0, none⟩ (.slice (some ⟨q, 0, none⟩) (st.length + 1) k)) := by
  have hbx := h.box d6
  obtain ⟨q', k', hq, hown⟩ := h.new d5
  have e39 : (upd f none v) t39 = f t39 := upd_other f v (by intro x; cases x)
  refine ⟨h.bel.setCell (p := ⟨gs, 0, none⟩) hgs _, fun e => ?_, fun _ => ?_, fun e => ?_, fun e => ?_, fun _ e => ?_, fun _ => ⟨q', k', e39.trans hq, own_store hown (p := ⟨gs, 0, none⟩) (own_apart hown hbx (by decide)) _⟩, fun _ => ⟨q, k, e39.trans hf, hbx.put 0 _⟩⟩
  · rw [mark_eq (by decide), d3] at e; cases e
  · obtain ⟨A', c', D', hA⟩ := h.post d3
    exact ⟨A', c', D', hA.set hbx (by decide) (fun _ => own_apart hA.row hbx (by decide)) _⟩
  · rw [mark_eq (by decide), d5] at e; cases e
  · rw [mark_self] at e; cases e
  · rw [mark_eq (by decide), d5] at e; cases e
end
end Go.Proofs.YtfmhmnpmdjpmeaaDoor
