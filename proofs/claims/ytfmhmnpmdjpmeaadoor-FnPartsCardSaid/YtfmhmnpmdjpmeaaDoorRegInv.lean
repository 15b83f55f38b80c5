/- Plain facts for constraints: what is implied; what is left when the constraints are considered one by one and each is removed that is not needed. -/
/- Words for memory: a slice that reads as a list of nodes; one that a call owns. -/
/- Nodes as a map's keys: what they read as; the map of an arena in the words of a list. -/
/- The laws' own helpers on nodes and slices of them: sizes, copies, comparison, marks. -/
/- The arena: its box, its row of nodes and its map. -/
/- A region that draws its order, by an invariant: each operation by itself, in whatever order they come up. -/
import Derived.Test.YtfmhmnpmdjpmeaaDoorCsMath3
import Derived.Maps.OwnSet
import Derived.Maps.OwnOps
import Derived.DeepKeys4
import Derived.RegionTactic

namespace Go.Proofs.YtfmhmnpmdjpmeaaDoor.Cs

/-- the constraints that are not gone, the first of them number k -/
def skipFrom : Nat → List Cn → (Nat → Bool) → List Cn
  | _, [], _ => []
  | k, c :: r, g => if g k = true then skipFrom (k + 1) r g else c :: skipFrom (k + 1) r g
def skip (l : List Cn) (g : Nat → Bool) : List Cn := skipFrom 0 l g
def mark (g : Nat → Bool) (i : Nat) (b : Bool) : Nat → Bool := fun x => if x = i then b else g x
section
variable {l : List Cn} (hok : ok l) (hf : flat l = true)
include hok hf
end
end Go.Proofs.YtfmhmnpmdjpmeaaDoor.Cs

namespace Go.Proofs.YtfmhmnpmdjpmeaaDoor
open Go.RowKit

/-- a node: Op, N, A, B -/
abbrev Nd := Int × Int × Int × Int
abbrev nd0 : Nd := (0, 0, 0, 0)
/-- the cells of a node -/
abbrev Nd.vals (t : Nd) : Array Value := #[.int .i64 t.1, .int .i64 t.2.1, .int .i64 t.2.2.1, .int .i64 t.2.2.2]
/-- the slice value '.slice A n c' reads as the nodes l; its cells lie below block B -/
def NodR (w : World) (B : Nat) (A : Option Addr) (n : Nat) (l : List Nd) : Prop :=
  l.length = n ∧ (0 < n → ∃ b off, A = some ⟨b, off, none⟩ ∧ b < B ∧ ∀ k, k < n →
    w.cell? ⟨b, off + k * 4, none⟩ = some (.int .i64 (l.getD k nd0).1) ∧ w.cell? ⟨b, off + k * 4 + 1, none⟩ = some (.int .i64 (l.getD k nd0).2.1) ∧ w.cell? ⟨b, off + k * 4 + 2, none⟩ = some (.int .i64 (l.getD k nd0).2.2.1) ∧ w.cell? ⟨b, off + k * 4 + 3, none⟩ = some (.int .i64 (l.getD k nd0).2.2.2))
section
variable {w w' : World} {B B' n : Nat} {A : Option Addr}
theorem NodR.keep {l : List Nd} (h : NodR w B A n l) (hk : ∀ p : Addr, p.block < B → w'.cell? p = w.cell? p) : NodR w' B A n l :=
  ⟨h.1, fun hn => by
    obtain ⟨b, off, e, hb, hc⟩ := h.2 hn
    exact ⟨b, off, e, hb, fun k hk' => by rw [hk _ (by exact hb), hk _ (by exact hb), hk _ (by exact hb), hk _ (by exact hb)]; exact hc k hk'⟩⟩
theorem NodR.below {l : List Nd} (h : NodR w B A n l) (hb : Below B w w') : NodR w' B A n l := h.keep fun _ hp => hb.cell hp
theorem NodR.more {l : List Nd} (h : NodR w B A n l) (hB : B ≤ B') : NodR w B' A n l :=
  ⟨h.1, fun hn => by
    obtain ⟨b, off, e, hb, hc⟩ := h.2 hn
    exact ⟨b, off, e, by omega, hc⟩⟩
end
/-- the cells of a list of nodes -/
def nodCells (l : List Nd) : List Value := l.flatMap fun t => [.int .i64 t.1, .int .i64 t.2.1, .int .i64 t.2.2.1, .int .i64 t.2.2.2]
theorem nodCells_cons (t : Nd) (l : List Nd) : nodCells (t :: l) = .int .i64 t.1 :: .int .i64 t.2.1 :: .int .i64 t.2.2.1 :: .int .i64 t.2.2.2 :: nodCells l := rfl
theorem nodCells_len (l : List Nd) : (nodCells l).length = l.length * 4 := by
  induction l with
  | nil => rfl
  | cons t r ih => rw [nodCells_cons]; simp [ih]; omega
theorem nodCells_append (a b : List Nd) : nodCells (a ++ b) = nodCells a ++ nodCells b := by simp [nodCells]
theorem nodCells_one (l : List Nd) : ∀ u ∈ nodCells l, u.oneCell' = true := by
  intro u hu
  simp only [nodCells, List.mem_flatMap] at hu
  obtain ⟨t, _, ht⟩ := hu
  simp at ht
  rcases ht with rfl | rfl | rfl | rfl <;> rfl
theorem nodCells_at (l : List Nd) (k : Nat) (hk : k < l.length) : (nodCells l)[k * 4]? = some (.int .i64 (l.getD k nd0).1) ∧ (nodCells l)[k * 4 + 1]? = some (.int .i64 (l.getD k nd0).2.1) ∧ (nodCells l)[k * 4 + 2]? = some (.int .i64 (l.getD k nd0).2.2.1) ∧ (nodCells l)[k * 4 + 3]? = some (.int .i64 (l.getD k nd0).2.2.2) := by
  induction l generalizing k with
  | nil => simp at hk
  | cons t r ih =>
    rw [nodCells_cons]
    cases k with
    | zero => exact ⟨rfl, rfl, rfl, rfl⟩
    | succ k =>
      have h := ih k (by simpa using hk)
      rw [show (k + 1) * 4 = k * 4 + 1 + 1 + 1 + 1 by omega]
      exact h
/-- a row of the call's own, of nodes -/
abbrev OwnN (w : World) (base : Nat) (A : Option Addr) (n c : Nat) (l : List Nd) : Prop := w.ownsRow base 72 4 (.slice A n c) n (nodCells l)
theorem OwnN.reads {w : World} {base : Nat} {A : Option Addr} {n c : Nat} {l : List Nd} (h : OwnN w base A n c l) : NodR w w.heap.size A n l := by
  have hl : l.length = n := by have := h.1; rw [nodCells_len] at this; omega
  refine ⟨hl, fun hn => ?_⟩
  rcases h.2 with ⟨_, h0⟩ | ⟨g, cap, cur, hv, hb, hgg, h1, h2, h3, h4⟩
  · omega
  · injection hv with e1 e2 e3
    subst e1
    refine ⟨g, 0, rfl, (Array.getElem?_eq_some_iff.1 hgg).1, fun k hk => ?_⟩
    have hat := nodCells_at l k (by omega)
    have c1 := h.cells (g := g) rfl (k * 4) _ hat.1
    have c2 := h.cells (g := g) rfl (k * 4 + 1) _ hat.2.1
    have c3 := h.cells (g := g) rfl (k * 4 + 2) _ hat.2.2.1
    have c4 := h.cells (g := g) rfl (k * 4 + 3) _ hat.2.2.2
    rw [own_adds] at c1 c2 c3 c4
    rw [Nat.zero_add]
    exact ⟨c1, c2, c3, c4⟩
theorem info_nod : (Tryd.prog.info? 72).map (fun i => (i.zero, i.size, i.bytes)) = some (some (.agg #[.int .i64 0, .int .i64 0, .int .i64 0, .int .i64 0]), 4, 32) := by kernel_rfl
end Go.Proofs.YtfmhmnpmdjpmeaaDoor

namespace Go.Proofs.YtfmhmnpmdjpmeaaDoor
open Go.RowKit Go.Maps
set_option maxRecDepth 100000

theorem laidNd : laidOutB Tryd.prog = true := by kernel_rfl
theorem rowNd : (72 : TypeId) < Tryd.prog.types.size := of_decide_eq_true (by kernel_rfl)
theorem wideNd : (match Tryd.prog.underlying 72 with | some (.array _ _) | some (.struct _) => true | _ => false) = true := by rw [Tryd.underlying72]
theorem lawNd : Keyed Tryd.prog 72 := Keyed.of_law (deep_law_laid laidNd (m := 2) (by omega) rowNd (by kernel_rfl) wideNd)
theorem zeroNd (w : World) : (zeroValue 3).run Tryd.prog w = .ok (.int .i64 0) w := by kernel_rfl

def ndWf (x : Nd) : Prop := (Lit.int .i64 x.1).wf = true ∧ (Lit.int .i64 x.2.1).wf = true ∧ (Lit.int .i64 x.2.2.1).wf = true ∧ (Lit.int .i64 x.2.2.2).wf = true
theorem cellsIntNd : Tryd.prog.cellsOf 3 = 1 := by kernel_rfl
theorem cellsNdK : Tryd.prog.cellsOf 72 = 4 := by kernel_rfl
theorem nk_some (x : Nd) (h : ndWf x) : ∃ l, keyOf Tryd.prog 72 (.agg x.vals) = some l := by
  obtain ⟨m, hm⟩ : ∃ m, Tryd.prog.types.size = m + 1 := ⟨Tryd.prog.types.size - 1, by have h : (0 : Nat) < Tryd.prog.types.size := Nat.lt_of_le_of_lt (Nat.zero_le _) rowNd; omega⟩
  have h1 : Tryd.prog.keyType 72 = true := by kernel_rfl
  have h2 : (Value.agg x.vals).formed Tryd.prog 72 = true := by simp [Value.formed, Tryd.underlying72, cellsNdK]
  have h3 : ∀ v : Int, (Lit.int .i64 v).wf = true → Tryd.prog.keyLits (m + 1) 3 [.int .i64 v] = some [.int .i64 v] := by
    intro v hv
    simp [Program.keyLits, Tryd.underlying3, hv]
  have h4 : ∃ l, Tryd.prog.keyLits (m + 1 + 1) 72 (Value.agg x.vals).cells.toList = some l := by
    refine ⟨[.int .i64 x.1, .int .i64 x.2.1, .int .i64 x.2.2.1, .int .i64 x.2.2.2], ?_⟩
    unfold Program.keyLits
    simp only [Tryd.underlying72]
    simp [cellsNdK, cellsIntNd, Value.cells, h3 _ h.1, h3 _ h.2.1, h3 _ h.2.2.1, h3 _ h.2.2.2]
  obtain ⟨l, hl⟩ := h4
  refine ⟨.string (keyBytes l), ?_⟩
  unfold keyOf
  rw [Tryd.underlying72, hm]
  simp only [h1, h2, Bool.and_self, if_true, hl, Option.map_some]
/-- what a node reads as where it is a key -/
noncomputable def nk (x : Nd) : Lit := (keyOf Tryd.prog 72 (.agg x.vals)).getD (.bool false)
theorem nk_key {x : Nd} (h : ndWf x) : keyOf Tryd.prog 72 (.agg x.vals) = some (nk x) := by
  obtain ⟨l, hl⟩ := nk_some x h
  unfold nk
  rw [hl]
  rfl
theorem nk_isKey {x : Nd} (h : ndWf x) : WideAt.IsKeyLit (nk x) := lawNd.key (nk_key h)
theorem nk_ne {x y : Nd} (hx : ndWf x) (hy : ndWf y) (h : x ≠ y) : nk x ≠ nk y := by
  intro e
  have h1 := nk_key hx
  rw [e] at h1
  have h2 := lawNd.inj h1 (nk_key hy)
  apply h
  obtain ⟨a, b, c, d⟩ := x
  obtain ⟨p, q, r, s⟩ := y
  simp at h2
  obtain ⟨rfl, rfl, rfl, rfl⟩ := h2
  rfl

/-- the map D holds just the nodes of l, each with its index -/
def GN (D : DataW Unit) (l : List Nd) : Prop := ∀ x, ndWf x → Maps.has D (nk x) = decide (x ∈ l) ∧ (x ∈ l → ∀ z, D.atKey (nk x) z = .lit (.int .i64 (l.idxOf x)))
theorem gn_start : GN (.map []) [] := fun x _ => ⟨by simp [Maps.has], fun h => by cases h⟩
theorem gn_step {D : DataW Unit} {l : List Nd} {x : Nd} (h : GN D l) (hD : IsMap D) (hx : ndWf x) (hn : x ∉ l) : GN (D.put (nk x) (.lit (.int .i64 (l.length : Int)))) (l ++ [x]) := by
  intro y hy
  by_cases e : y = x
  · subst e
    refine ⟨?_, fun _ z => ?_⟩
    · rw [has_put_same hD (nk_isKey hy)]; simp
    · rw [atKey_put_same hD (nk_isKey hy), List.idxOf_append, if_neg hn]
      simp
  · obtain ⟨h1, h2⟩ := h y hy
    refine ⟨?_, fun hu z => ?_⟩
    · rw [has_put_other (nk_ne hy hx e), h1]; simp [e]
    · have hm : y ∈ l := by simpa [e] using hu
      rw [atKey_put_other (nk_ne hy hx e), h2 hm z, List.idxOf_append, if_pos hm]
end Go.Proofs.YtfmhmnpmdjpmeaaDoor

namespace Go.Proofs.YtfmhmnpmdjpmeaaDoor
open Go.RowKit

/-- block g is a row of just n constraints, those of l -/
def NodOwn (w : World) (g n : Nat) (l : List Nd) : Prop :=
  l.length = n ∧ ∃ cs, Blk w g 72 cs ∧ cs.size = n * 4 ∧ ∀ k, k < n → cs[k * 4]? = some (.int .i64 (l.getD k nd0).1) ∧ cs[k * 4 + 1]? = some (.int .i64 (l.getD k nd0).2.1) ∧ cs[k * 4 + 2]? = some (.int .i64 (l.getD k nd0).2.2.1) ∧ cs[k * 4 + 3]? = some (.int .i64 (l.getD k nd0).2.2.2)
theorem NodOwn.lt {w : World} {g n : Nat} {l : List Nd} (h : NodOwn w g n l) : g + 1 ≤ w.heap.size := by obtain ⟨_, cs, hblk, _⟩ := h; exact hblk.lt
theorem NodOwn.reads {w : World} {g n : Nat} {l : List Nd} (h : NodOwn w g n l) : NodR w (g + 1) (some ⟨g, 0, none⟩) n l := by
  obtain ⟨hl, cs, hb, hs, hc⟩ := h
  refine ⟨hl, fun _ => ⟨g, 0, rfl, by omega, fun k hk => ?_⟩⟩
  rw [hb.cell, hb.cell, hb.cell, hb.cell, Nat.zero_add]
  exact hc k hk
theorem NodOwn.below {w w' : World} {g n B : Nat} {l : List Nd} (h : NodOwn w g n l) (hb : Below B w w') (hg : g < B) : NodOwn w' g n l := by
  obtain ⟨hl, cs, hblk, rest⟩ := h
  exact ⟨hl, cs, hblk.below hb hg, rest⟩
end Go.Proofs.YtfmhmnpmdjpmeaaDoor

namespace Go.Proofs.YtfmhmnpmdjpmeaaDoor
open Go.RowKit Go.Maps

/-- block g is the box of an arena with the nodes l (row A n c, map m); what belongs to it lies from base on -/
structure ArO (w : World) (base g m : Nat) (A : Option Addr) (n c : Nat) (D : DataW Unit) (l : List Nd) : Prop where
  bg : base ≤ g
  bm : base ≤ m
  box : Blk w g 85 #[.slice A n c, .map (some m)]
  row : OwnN w base A n c l
  map : w.ownsMap Tryd.prog 72 (plainElem Tryd.prog 3) m n D
  gn : GN D l
theorem ArO.len {w : World} {base g m n c : Nat} {A : Option Addr} {D : DataW Unit} {l : List Nd} (h : ArO w base g m A n c D l) : l.length = n := (OwnN.reads h.row).1
theorem map_below {w w' : World} {m n B : Nat} {D : DataW Unit} (h : w.ownsMap Tryd.prog 72 (plainElem Tryd.prog 3) m n D) (hb : Below B w w') (hm : m < B) : w'.ownsMap Tryd.prog 72 (plainElem Tryd.prog 3) m n D := by
  obtain ⟨es, clock, h1, h2, h3, h4⟩ := h
  exact ⟨es, clock, (hb.block m hm).trans h1, h2, h3, h4⟩
theorem map_apart {w : World} {m n g : Nat} {D : DataW Unit} {t : TypeId} {cs : Array Value} (h : w.ownsMap Tryd.prog 72 (plainElem Tryd.prog 3) m n D) (hb : Blk w g t cs) : g ≠ m := by
  rintro rfl
  obtain ⟨es, clock, h1, _⟩ := h
  have e := Eq.trans (Eq.symm h1) hb
  injection e with e
  cases e
theorem map_row {w : World} {m n base k : Nat} {D : DataW Unit} {v : Value} {xs : List Value} (h : w.ownsMap Tryd.prog 72 (plainElem Tryd.prog 3) m n D) (hb : w.ownsRow base 72 4 v k xs) : some m ≠ v.ownBlock := by
  rcases hb.2 with ⟨rfl, _⟩ | ⟨g', cap, cur, rfl, _, hh, _⟩
  · simp [Value.ownBlock]
  · intro he
    have hgg : m = g' := by simpa [Value.ownBlock] using he
    subst hgg
    obtain ⟨es, clock, h1, _⟩ := h
    have e := Eq.trans (Eq.symm h1) hh
    injection e with e
    cases e
theorem ArO.below {w w' : World} {base g m n c : Nat} {A : Option Addr} {D : DataW Unit} {l : List Nd} (h : ArO w base g m A n c D l) (hb : Below w.heap.size w w') : ArO w' base g m A n c D l :=
  ⟨h.bg, h.bm, h.box.below hb h.box.lt, own_below' h.row hb, map_below h.map hb h.map.lt, h.gn⟩

set_option maxRecDepth 100000 in
set_option maxHeartbeats 1600000 in
/-- a node that is there already -/
theorem index_in (w : World) (base g m : Nat) (A : Option Addr) (n c : Nat) (D : DataW Unit) (l : List Nd) (o u a b : Int) (h : ArO w base g m A n c D l) (hw : ndWf (o, u, a, b)) (hm : (o, u, a, b) ∈ l) :
    Calls Tryd.prog 83 #[.pointer (some ⟨g, 0, none⟩), .agg #[.int .i64 o, .int .i64 u, .int .i64 a, .int .i64 b]] w fun e w' => e = .returned (.int .i64 (l.idxOf (o, u, a, b) : Nat)) ∧ Below w.heap.size w w' := by
  obtain ⟨i, hi⟩ : ∃ i : Nat, l.idxOf (o, u, a, b) = i := ⟨_, rfl⟩
  rw [hi]
  have hB : Below w.heap.size w (w.alloc (.cells #[.int .i64 o, .int .i64 u, .int .i64 a, .int .i64 b] 72)) := (Below.refl _ _).alloc (Nat.le_refl _) _
  obtain ⟨v, ps, hrun, hv⟩ := (h.map.alloc (.cells #[.int .i64 o, .int .i64 u, .int .i64 a, .int .i64 b] 72)).drew.look_ok lawNd Tryd.underlying83 (zeroNd _) (plainElem_int Tryd.underlying3 (a := 0) (by decide)) (nk_key hw)
  obtain ⟨hhas, hat⟩ := h.gn _ hw
  rw [hhas, decide_eq_true hm] at hrun
  rw [hat hm, hi] at hv
  obtain ⟨z, rfl, hz, _⟩ := plainElem_int_inv Tryd.underlying3 hv
  simp at hz
  obtain ⟨hz, -⟩ := hz
  subst hz
  have k1 := (h.box.below hB h.box.lt).cell 1
  simp at k1
  have hgl := h.box.lt
  have HB := Lib.hid hB
  clear hv hhas hat hi hm h hB
  go_enter Tryd.func83, Tryd.ntmps83
  go_wp2_with fail
  go_region
  go_wp2
  go_ret
  exact ⟨rfl, HB.out.drew⟩
end Go.Proofs.YtfmhmnpmdjpmeaaDoor

namespace Go.Proofs.YtfmhmnpmdjpmeaaDoor
open Go

/-- the slots of a call as a function -/
def tm (N : Nat) (f : Nat → Value) : Act := { tmps := ((List.range N).map f).toArray, defers := [] }
def upd (f : Nat → Value) (d : Option Nat) (v : Value) : Nat → Value := fun t => if d = some t then v else f t
theorem tm_put (N : Nat) (f : Nat → Value) (d : Option Nat) (v : Value) : (tm N f).put d v = tm N (upd f d v) := by
  cases d with
  | none =>
    have : upd f none v = f := funext fun t => if_neg (by intro h; cases h)
    rw [this]; rfl
  | some d =>
    show ({ tmps := ((List.range N).map f).toArray.setIfInBounds d v, defers := [] } : Act) = { tmps := ((List.range N).map (upd f (some d) v)).toArray, defers := [] }
    congr 1
    rw [List.setIfInBounds_toArray]
    congr 1
    apply List.ext_getElem (by simp)
    intro i h1 h2
    rw [List.getElem_set]
    simp only [List.getElem_map, List.getElem_range, upd]
    by_cases e : d = i
    · subst e; rw [if_pos rfl, if_pos rfl]
    · rw [if_neg e, if_neg (fun h => e (by injection h))]
theorem tm_eval {N t : Nat} (h : t < N) (f : Nat → Value) : (tm N f).eval (.tmp t) = f t := by
  simp [tm, Act.eval, Array.getD, h]
theorem upd_same (f : Nat → Value) (t : Nat) (v : Value) : upd f (some t) v t = v := if_pos rfl
theorem upd_other (f : Nat → Value) {d : Option Nat} {t : Nat} (v : Value) (h : d ≠ some t) : upd f d v t = f t := if_neg h

section
variable {P : Program} {ops : Array Oper} {Q : Exit → Act → World → Prop} {md : Region.Mode}

theorem count_listed {listed : Array Bool} {i : Nat} (h : listed.getD i true = false) : (listed.setIfInBounds i true).toList.count false + 1 = listed.toList.count false := by
  obtain ⟨l⟩ := listed
  have hl : i < l.length := by
    rcases Nat.lt_or_ge i l.length with h' | h'
    · exact h'
    · simp [Array.getD, Nat.not_lt.2 h'] at h
  have hi : l[i] = false := by simpa [Array.getD, hl] using h
  simp only [List.setIfInBounds_toArray]
  clear h
  induction l generalizing i with
  | nil => simp at hl
  | cons x l ih =>
    cases i with
    | zero =>
      simp only [List.getElem_cons_zero] at hi
      subst hi
      simp
    | succ i =>
      simp only [List.length_cons] at hl
      simp only [List.getElem_cons_succ] at hi
      have := ih (by omega) hi
      simp only [List.set_cons_succ, List.count_cons]
      omega
theorem ready_pos {listed : Array Bool} {i : Nat} (h : i ∈ Region.ready md ops listed) : 0 < listed.toList.count false := by
  have := count_listed (mem_ready.1 h).1
  omega
/-- whatever order is picked, an invariant that each operation keeps holds at the end -/
theorem wpAny_inv (I : Nat → Array Bool → Act → World → Prop)
    (hstep : ∀ k listed a w, k < ops.size → I k listed a w → ∀ i ∈ Region.ready md ops listed, wpOp P ops Q i (I (k + 1) (listed.setIfInBounds i true)) a w)
    (hend : ∀ k listed a w, k ≤ ops.size → I k listed a w → Region.ready md ops listed = [] → Q .normal a w) :
    ∀ (fuel k : Nat) (listed : Array Bool) (a : Act) (w : World), fuel + k = ops.size → listed.toList.count false ≤ fuel → I k listed a w → wpAny P md ops Q fuel listed a w := by
  intro fuel
  induction fuel with
  | zero =>
    intro k listed a w hk hc hI
    have hr : Region.ready md ops listed = [] := by
      cases h : Region.ready md ops listed with
      | nil => rfl
      | cons x xs =>
        have := ready_pos (md := md) (ops := ops) (listed := listed) (i := x) (by rw [h]; simp)
        omega
    exact ⟨hr, hend k listed a w (by omega) hI hr⟩
  | succ fuel ih =>
    intro k listed a w hk hc hI
    refine ⟨hend k listed a w (by omega) hI, fun i hi => ?_⟩
    refine wpOp_mono (fun a' w' h => ih (k + 1) _ a' w' (by omega) ?_ h) (hstep k listed a w (by omega) hI i hi)
    have := count_listed (mem_ready.1 hi).1
    omega

/-- the slot of an operation, what lies in it, and that an operation waits for another one -/
def dstOf (ops : Array Oper) (j : Nat) : Option Nat := (ops[j]?).bind (·.dst)
def slotV (ops : Array Oper) (f : Nat → Value) (j : Nat) : Value := match dstOf ops j with | some t => f t | none => undef
def waitsFor (ops : Array Oper) (i j : Nat) : Bool := match ops[i]? with | some o => o.after.any (fun e => Region.binds .any e && e.on == j) | none => false
def slotsOk (ops : Array Oper) : Bool :=
  (List.range ops.size).all fun i => (match ops[i]? with | some o => o.after.all (fun e => !Region.binds .any e || decide (e.on < i)) | none => true) && (List.range ops.size).all fun j => i == j || dstOf ops i == none || dstOf ops i != dstOf ops j
def isDst (ops : Array Oper) (t : Nat) : Bool := (List.range ops.size).any fun i => dstOf ops i == some t

theorem slotsOk_before (h : slotsOk ops = true) {i : Nat} {o : Oper} (ho : ops[i]? = some o) : ∀ e ∈ o.after, Region.binds .any e = true → e.on < i := by
  have hi : i < ops.size := (Array.getElem?_eq_some_iff.1 ho).1
  unfold slotsOk at h
  have h1 := List.all_eq_true.1 h i (List.mem_range.2 hi)
  rw [Bool.and_eq_true, ho] at h1
  intro e he hb
  have := Array.all_eq_true_iff_forall_mem.1 h1.1 e he
  rw [hb] at this
  simpa using this
theorem slotsOk_apart (h : slotsOk ops = true) {i j : Nat} (hi : i < ops.size) (hj : j < ops.size) (hne : i ≠ j) {t : Nat} (hd : dstOf ops i = some t) : dstOf ops j ≠ some t := by
  unfold slotsOk at h
  have h1 := List.all_eq_true.1 h i (List.mem_range.2 hi)
  rw [Bool.and_eq_true] at h1
  have h2 := List.all_eq_true.1 h1.2 j (List.mem_range.2 hj)
  rw [hd] at h2
  simp [hne] at h2
  exact fun e => h2 e.symm
theorem ready_none (h : slotsOk ops = true) {listed : Array Bool} (hs : listed.size = ops.size) (hr : Region.ready .any ops listed = []) : ∀ i, i < ops.size → listed.getD i false = true := by
  intro i
  induction i using Nat.strongRecOn with
  | ind i ih =>
    intro hi
    obtain ⟨o, ho⟩ : ∃ o, ops[i]? = some o := ⟨ops[i], by simp [hi]⟩
    cases hl : listed.getD i true with
    | true => simpa [Array.getD, hs, hi] using hl
    | false =>
      have : i ∈ Region.ready .any ops listed := by
        rw [mem_ready]
        refine ⟨hl, o, ho, fun e he hb => ?_⟩
        have := slotsOk_before h ho e he hb
        exact ih e.on this (by omega)
      rw [hr] at this
      cases this

/-- A REGION BY ITS OPERATIONS: C says of each what lies in its slot once it has come up; each keeps what is said of the others (R, hkeep); G goes along, counted, with what has come up. -/
def mark (d : Nat → Bool) (i : Nat) : Nat → Bool := fun j => if j = i then true else d j
/-- a slot that no operation writes -/
theorem frame_of {d : Nat → Bool} {t : Nat} (h : isDst ops t = false) : ∀ j, dstOf ops j = some t → d j = false := fun j hj => by
  have hj' : j < ops.size := by
    rcases Nat.lt_or_ge j ops.size with q | q
    · exact q
    · simp [dstOf, Array.getElem?_eq_none q] at hj
  have : isDst ops t = true := by
    unfold isDst
    rw [List.any_eq_true]
    exact ⟨j, List.mem_range.2 hj', by simp [hj]⟩
  rw [h] at this
  cases this
/-- the operations one by one -/
def AllFrom (p : Nat → Oper → Prop) : Nat → List Oper → Prop
  | _, [] => True
  | i, o :: os => p i o ∧ AllFrom p (i + 1) os
theorem AllFrom.cons {p : Nat → Oper → Prop} {i : Nat} {o : Oper} {os : List Oper} (h : p i o) (hs : AllFrom p (i + 1) os) : AllFrom p i (o :: os) := ⟨h, hs⟩
theorem AllFrom.nil {p : Nat → Oper → Prop} {i : Nat} : AllFrom p i [] := trivial
theorem AllFrom.at {p : Nat → Oper → Prop} : ∀ {os : List Oper} {s : Nat}, AllFrom p s os → ∀ i o, os[i]? = some o → p (s + i) o
  | [], _, _, i, o, h => by simp at h
  | x :: os, s, h, i, o, ho => by
    cases i with
    | zero => simp at ho; subst ho; exact h.1
    | succ i =>
      have := AllFrom.at h.2 i o (by simpa using ho)
      rw [show s + (i + 1) = s + 1 + i by omega]
      exact this
theorem AllFrom.all {p : Nat → Oper → Prop} {os : List Oper} (h : AllFrom p 0 os) : ∀ i o, os.toArray[i]? = some o → p i o := fun i o ho => by
  have := AllFrom.at h i o (by simpa using ho)
  rwa [Nat.zero_add] at this

theorem op_wp {i : Nat} {o : Oper} {a : Act} {w : World} {K : Act → World → Prop} (hi : ops[i]? = some o) (hg : o.guard = none) (h : ∀ K' : Act → World → Prop, (∀ a w, K a w → K' a w) → o.wp P a w K' Q) : wpOp P ops Q i K a w := by
  refine wpOp_step hi fun K' hK => ?_
  rw [if_pos (by simp [Region.wanted, hg])]
  exact h K' hK
end
end Go.Proofs.YtfmhmnpmdjpmeaaDoor
