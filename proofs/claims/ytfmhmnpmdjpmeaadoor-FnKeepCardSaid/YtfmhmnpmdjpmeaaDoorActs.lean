/- The arena's index, whether the node is there or not; its stack in a variable of the closure; the region that puts a place on it. -/
/- ArenaPut of the program. -/
/- The five actions of the machine's table, each for every state: one step of the plain function, or the panic. -/
import Derived.Test.YtfmhmnpmdjpmeaaDoorApMath
import Derived.Test.YtfmhmnpmdjpmeaaDoorMeth
import Derived.Test.YtfmhmnpmdjpmeaaDoorRegInv2

namespace Go.Proofs.YtfmhmnpmdjpmeaaDoor
open Go.RowKit Go.Maps

theorem ix_blk {w w' : World} {base g m n c k : Nat} {A : Option Addr} {D : DataW Unit} {l : List Nd} {t : TypeId} {cs : Array Value} (h : ArO w base g m A n c D l) (hfr : ∀ k, k < w.heap.size → k ≠ g → k ≠ m → (Value.slice A n c).ownBlock ≠ some k → w'.heap[k]? = w.heap[k]?)
    (hb : Blk w k t cs) (h1 : t ≠ 85) (h2 : t ≠ 72) : Blk w' k t cs :=
  (hfr k hb.lt (hb.apart h.box h1) (map_apart h.map hb) (own_apart h.row hb (fun e => h2 e.symm))).trans hb
theorem ix_own {w w' : World} {base base' g m n c k size : Nat} {A : Option Addr} {D : DataW Unit} {l : List Nd} {t : TypeId} {v : Value} {xs : List Value} (h : ArO w base g m A n c D l) (hfr : ∀ k, k < w.heap.size → k ≠ g → k ≠ m → (Value.slice A n c).ownBlock ≠ some k → w'.heap[k]? = w.heap[k]?)
    (ho : w.ownsRow base' t size v k xs) (h1 : t ≠ 85) (h2 : t ≠ 72) : w'.ownsRow base' t size v k xs :=
  own_stay ho (fun b hb => by
    obtain ⟨cs, hcs⟩ := own_blk ho b hb
    exact (ix_blk h hfr hcs h1 h2).trans hcs.symm)
theorem ArO.stay {w w' : World} {base g m n c : Nat} {A : Option Addr} {D : DataW Unit} {l : List Nd} (h : ArO w base g m A n c D l) (hs : ∀ k, k < w.heap.size → (∃ cs t, Blk w k t cs ∧ (t = 85 ∨ t = 72)) ∨ k = m → w'.heap[k]? = w.heap[k]?) (hm : m < w.heap.size) : ArO w' base g m A n c D l := by
  refine ⟨h.bg, h.bm, (hs g h.box.lt (.inl ⟨_, _, h.box, .inl rfl⟩)).trans h.box, own_stay h.row (fun b hb => ?_), ?_, h.gn⟩
  · obtain ⟨cs, hcs⟩ := own_blk h.row b hb
    exact hs b hcs.lt (.inl ⟨_, _, hcs, .inr rfl⟩)
  · obtain ⟨es, clock, h1, h2, h3, h4⟩ := h.map
    exact ⟨es, clock, (hs m hm (.inr rfl)).trans h1, h2, h3, h4⟩
theorem ArO.mlt {w : World} {base g m n c : Nat} {A : Option Addr} {D : DataW Unit} {l : List Nd} (h : ArO w base g m A n c D l) : m < w.heap.size := by
  obtain ⟨es, clock, h1, _⟩ := h.map
  exact (Array.getElem?_eq_some_iff.1 h1).1
/-- a block of another type is written -/
theorem ArO.set {w : World} {base g m n c k i : Nat} {A : Option Addr} {D : DataW Unit} {l : List Nd} {t : TypeId} {cs : Array Value} (h : ArO w base g m A n c D l) (hb : Blk w k t cs) (h1 : t ≠ 85) (h2 : k ≠ g → (Value.slice A n c).ownBlock ≠ some k) (v : Value) : ArO (w.setCell ⟨k, i, none⟩ v) base g m A n c D l := by
  have hg : k ≠ g := hb.apart h.box h1
  refine ⟨h.bg, h.bm, (Below.heap_setCell _ _ _ _ (fun e => hg e.symm)).trans h.box, own_store h.row (p := ⟨k, i, none⟩) (h2 hg) _, h.map.setCell (a := ⟨k, i, none⟩) (fun x => map_apart h.map hb x.symm) _, h.gn⟩
/-- a row of another type grows -/
theorem ArO.grow {w w' : World} {base base' g m n c k size : Nat} {A : Option Addr} {D : DataW Unit} {l : List Nd} {t : TypeId} {v : Value} {xs : List Value} (h : ArO w base g m A n c D l) (ho : w.ownsRow base' t size v k xs) (h1 : t ≠ 85) (h2 : t ≠ 72) (hg : w.grownBy w' v.ownBlock) : ArO w' base g m A n c D l := by
  refine h.stay (fun b hb hc => hg.block b hb (fun e => ?_)) h.mlt
  obtain ⟨cs', hcs'⟩ := own_blk ho b e.symm
  rcases hc with ⟨cs, t', hcs, ht⟩ | rfl
  · refine hcs'.apart hcs (fun e => ?_) rfl
    rcases ht with rfl | rfl
    · exact h1 e
    · exact h2 e
  · exact map_apart h.map hcs' rfl

/-- a stack of places (its top first) in a variable that a closure captures -/
def Stk (w : World) (B gs : Nat) (st : List Int) : Prop := B ≤ gs ∧ ∃ (A : Option Addr) (c : Nat), Blk w gs 40 #[.slice A st.length c] ∧ w.ownsRow B 3 1 (.slice A st.length c) st.length (st.reverse.map (Value.int .i64))
theorem Stk.below {w w' : World} {B gs : Nat} {st : List Int} (h : Stk w B gs st) (hb : Below w.heap.size w w') : Stk w' B gs st := by
  obtain ⟨h1, A, c, hblk, hown⟩ := h
  exact ⟨h1, A, c, hblk.below hb hblk.lt, own_below' hown hb⟩
theorem Stk.index {w w' : World} {base g m n c B gs : Nat} {A : Option Addr} {D : DataW Unit} {l : List Nd} {st : List Int} (h : ArO w base g m A n c D l) (hfr : ∀ k, k < w.heap.size → k ≠ g → k ≠ m → (Value.slice A n c).ownBlock ≠ some k → w'.heap[k]? = w.heap[k]?) (hs : Stk w B gs st) : Stk w' B gs st := by
  obtain ⟨h1, A2, c2, hblk, hown⟩ := hs
  exact ⟨h1, A2, c2, ix_blk h hfr hblk (by decide) (by decide), ix_own h hfr hown (by decide) (by decide)⟩
theorem Stk.set {w : World} {B gs k i : Nat} {st : List Int} {t : TypeId} {cs : Array Value} (hs : Stk w B gs st) (hb : Blk w k t cs) (h1 : t ≠ 40) (h2 : t ≠ 3) (v : Value) : Stk (w.setCell ⟨k, i, none⟩ v) B gs st := by
  obtain ⟨h0, A2, c2, hblk, hown⟩ := hs
  have hg : k ≠ gs := hb.apart hblk h1
  exact ⟨h0, A2, c2, (Below.heap_setCell _ _ _ _ (fun e => hg e.symm)).trans hblk, own_store hown (p := ⟨k, i, none⟩) (own_apart hown hb (fun e => h2 e.symm)) _⟩

/-- the region that puts the place of a node on the stack -/
structure PutG (base g m gs nb : Nat) (ns : List Nd) (st : List Int) (x : Nd) (A : Option Addr) (c : Nat) (t38 t39 : Nat) (W : World) (d : Nat → Bool) (f : Nat → Value) (w : World) : Prop where
  bel : Below base W w
  pre : d 3 = false → (∃ A' c' D', ArO w base g m A' ns.length c' D' ns) ∧ Blk w nb 72 #[.int .i64 x.1, .int .i64 x.2.1, .int .i64 x.2.2.1, .int .i64 x.2.2.2]
  post : d 3 = true → ∃ A' c' D', ArO w base g m A' (addNd ns x).length c' D' (addNd ns x)
  row : d 5 = false → w.ownsRow base 3 1 (.slice A st.length c) st.length (st.reverse.map (Value.int .i64))
  box : d 6 = false → Blk w gs 40 #[.slice A st.length c]
  one : d 4 = true → d 5 = false → ∃ h, f t38 = .slice (some ⟨h, 0, none⟩) 1 1 ∧ Blk w h 3 #[.int .i64 ((ns.idxOf x : Nat) : Int)]
  new : d 5 = true → ∃ q k, f t39 = .slice (some ⟨q, 0, none⟩) (st.length + 1) k ∧ w.ownsRow base 3 1 (.slice (some ⟨q, 0, none⟩) (st.length + 1) k) (st.length + 1) (st.reverse.map (Value.int .i64) ++ [.int .i64 ((ns.idxOf x : Nat) : Int)])
  fin : d 6 = true → ∃ q k, f t39 = .slice (some ⟨q, 0, none⟩) (st.length + 1) k ∧ Blk w gs 40 #[.slice (some ⟨q, 0, none⟩) (st.length + 1) k]
section
variable {base g m gs nb c t38 t39 j : Nat} {ns : List Nd} {st : List Int} {x : Nd} {A : Option Addr} {W w w' : World} {d : Nat → Bool} {f : Nat → Value} {s : Option Nat} {v : Value}
theorem PutG.same (h : PutG base g m gs nb ns st x A c t38 t39 W d f w) (j3 : j ≠ 3) (j4 : j ≠ 4) (j5 : j ≠ 5) (j6 : j ≠ 6) (s38 : s ≠ some t38) (s39 : s ≠ some t39) : PutG base g m gs nb ns st x A c t38 t39 W (mark d j) (upd f s v) w := by
  refine ⟨h.bel, fun e => ?_, fun e => ?_, fun e => ?_, fun e => ?_, fun e e5 => ?_, fun e => ?_, fun e => ?_⟩
  · rw [mark_eq j3] at e; exact h.pre e
  · rw [mark_eq j3] at e; exact h.post e
  · rw [mark_eq j5] at e; exact h.row e
  · rw [mark_eq j6] at e; exact h.box e
  · rw [mark_eq j4] at e; rw [mark_eq j5] at e5; rw [upd_other f v s38]; exact h.one e e5
  · rw [mark_eq j5] at e; rw [upd_other f v s39]; exact h.new e
  · rw [mark_eq j6] at e; rw [upd_other f v s39]; exact h.fin e
theorem PutG.made (h : PutG base g m gs nb ns st x A c t38 t39 W d f w) (d3 : d 3 = true) (d5 : d 5 = false) (d6 : d 6 = false) (hbase : base ≤ w.heap.size) : PutG base g m gs nb ns st x A c t38 t39 W (mark d 4) (upd f (some t38) (.slice (some ⟨w.heap.size, 0, none⟩) 1 1)) (w.alloc (.cells #[.int .i64 ((ns.idxOf x : Nat) : Int)] 3)) := by
  have hb : Below w.heap.size w (w.alloc (.cells #[.int .i64 ((ns.idxOf x : Nat) : Int)] 3)) := (Below.refl _ _).alloc (Nat.le_refl _) _
  refine ⟨h.bel.trans (hb.mono hbase), fun e => ?_, fun _ => ?_, fun _ => own_below' (h.row d5) hb, fun _ => (h.box d6).below hb (h.box d6).lt, fun _ _ => ⟨w.heap.size, upd_same _ _ _, Blk.made _ _ _⟩, fun e => ?_, fun e => ?_⟩
  · rw [mark_eq (by decide), d3] at e; cases e
  · obtain ⟨A', c', D', hA⟩ := h.post d3
    exact ⟨A', c', D', hA.below hb⟩
  · rw [mark_eq (by decide), d5] at e; cases e
  · rw [mark_eq (by decide), d6] at e; cases e
theorem PutG.added {q k : Nat} (h : PutG base g m gs nb ns st x A c t38 t39 W d f w) (d3 : d 3 = true) (d5 : d 5 = false) (d6 : d 6 = false) (hbase : base ≤ w.heap.size) (hg : w.grownBy w' (Value.slice A st.length c).ownBlock)
    (ho : w'.ownsRow base 3 1 (.slice (some ⟨q, 0, none⟩) (st.length + 1) k) (st.length + 1) (st.reverse.map (Value.int .i64) ++ [.int .i64 ((ns.idxOf x : Nat) : Int)])) : PutG base g m gs nb ns st x A c t38 t39 W (mark d 5) (upd f (some t39) (.slice (some ⟨q, 0, none⟩) (st.length + 1) k)) w' := by
  have hrow := h.row d5
  refine ⟨h.bel.grown hg hbase (fun x hx => (hrow.lt x hx).1), fun e => ?_, fun _ => ?_, fun e => ?_, fun _ => (h.box d6).grown hg (fun x => own_apart hrow (h.box d6) (by decide) x.symm), fun _ e => ?_, fun _ => ⟨q, k, upd_same _ _ _, ho⟩, fun e => ?_⟩
  · rw [mark_eq (by decide), d3] at e; cases e
  · obtain ⟨A', c', D', hA⟩ := h.post d3
    exact ⟨A', c', D', hA.grow hrow (by decide) (by decide) hg⟩
  · rw [mark_self] at e; cases e
  · rw [mark_self] at e; cases e
  · rw [mark_eq (by decide), d6] at e; cases e
theorem PutG.put {q k : Nat} (h : PutG base g m gs nb ns st x A c t38 t39 W d f w) (d3 : d 3 = true) (d5 : d 5 = true) (d6 : d 6 = false) (hgs : base ≤ gs) (hf : f t39 = .slice (some ⟨q, 0, none⟩) (st.length + 1) k) : PutG base g m gs nb ns st x A c t38 t39 W (mark d 6) (upd f none v) (w.setCell ⟨gs, 0, none⟩ (.slice (some ⟨q, 0, none⟩) (st.length + 1) k)) := by
  have hbx := h.box d6
  obtain ⟨q', k', hq, hown⟩ := h.new d5
  have e39 : (upd f none v) t39 = f t39 := upd_other f v (by intro x; cases x)
  refine ⟨h.bel.setCell (p := ⟨gs, 0, none⟩) hgs _, fun e => ?_, fun _ => ?_, fun e => ?_, fun e => ?_, fun _ e => ?_, fun _ => ⟨q', k', e39.trans hq, own_store hown (p := ⟨gs, 0, none⟩) (own_apart hown hbx (by decide)) _⟩, fun _ => ⟨q, k, e39.trans hf, hbx.put 0 _⟩⟩
  · rw [mark_eq (by decide), d3] at e; cases e
  · obtain ⟨A', c', D', hA⟩ := h.post d3
    exact ⟨A', c', D', hA.set hbx (by decide) (fun _ => own_apart hA.row hbx (by decide)) _⟩
  · rw [mark_eq (by decide), d5] at e; cases e
  · rw [mark_self] at e; cases e
  · rw [mark_eq (by decide), d5] at e; cases e
end
end Go.Proofs.YtfmhmnpmdjpmeaaDoor

namespace Go.Proofs.YtfmhmnpmdjpmeaaDoor
open Go.RowKit

theorem int_more' {w : World} {base n : Nat} {v : Value} {xs : List Value} (h : w.ownsRow base 3 1 v (n + 1) xs) : ∃ g c, v = .slice (some ⟨g, 0, none⟩) (n + 1) c := by
  rcases h.2 with ⟨_, h⟩ | ⟨g, c, _, h, _⟩
  · omega
  · exact ⟨g, c, h⟩
theorem ArO.drew {w : World} {base g m n c : Nat} {A : Option Addr} {D : DataW Unit} {l : List Nd} (h : ArO w base g m A n c D l) : ArO w.drew base g m A n c D l := ⟨h.bg, h.bm, h.box, h.row, h.map.drew, h.gn⟩
theorem put_no {op N : Int} {st : List Int} (h : op = 0 ∨ op = 4) : putNd (op, N) st = (op, N, -1, -1) ∧ tkB op = false ∧ tkA op = false ∧ tkN op = 0 := by rcases h with rfl | rfl <;> exact ⟨rfl, rfl, rfl, rfl⟩
theorem put_two {op N : Int} {a b : Int} {st : List Int} (h : op = 2 ∨ op = 3) : putNd (op, N) (b :: a :: st) = (op, N, a, b) ∧ tkB op = true ∧ tkA op = true ∧ tkN op = 2 := by rcases h with rfl | rfl <;> exact ⟨rfl, rfl, rfl, rfl⟩

end Go.Proofs.YtfmhmnpmdjpmeaaDoor

namespace Go.Proofs.YtfmhmnpmdjpmeaaDoor
open Go.RowKit

section
variable (w : World) (B bm : Nat) (env st : List Int) (T : TypeId) (pv : Value) (n : Int)

theorem tk_no (i : Int) (hi : i = 0 ∨ i = 1 ∨ i = 2 ∨ i = 3) (h : n ≠ 0) : Lv.step env (i, n) st = none := by
  have : Lv.tkOk (i, n) = false := by
    rw [Bool.eq_false_iff]; intro hk; simp [Lv.tkOk] at hk; omega
  simp [Lv.step, this]

theorem max_step (s : List Int) (a b : Int) : Lv.step env (2, 0) (b :: a :: s) = some (max a b :: s) := by simp [Lv.step, Lv.tkOk]
theorem imax_step (s : List Int) (a b : Int) (h : ¬ b = 0) : Lv.step env (3, 0) (b :: a :: s) = some (max a b :: s) := by simp [Lv.step, Lv.tkOk, h]

end
end Go.Proofs.YtfmhmnpmdjpmeaaDoor
