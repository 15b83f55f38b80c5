/- Words for memory: a slice that reads as a list of pairs or of numbers, a block that is known whole; an env. -/
/- The reference model's LevelEval; the laws' helpers on slices of numbers. -/
/- Slices that a call owns: read as lists, kept over other steps; the laws' marks upon them. -/
/- Plain facts for constraints: the table that is made out of a list of constraints; what it tells of the values that satisfy them. -/
/- Plain facts for constraints: when a list is satisfiable, its least values, and what it implies. -/
/- Words for memory: a slice that reads as a list of constraints; one that a call owns. -/
/- The laws' own helpers on constraints and slices of them: sizes, copies, comparison, marks. -/
/- A session of one frame in which nothing is: made, compared, marked, held. -/
import Derived.Test.YtmbcjddahncocaaRows
import Derived.WalkKit
import Derived.WalkLawsBesides
import Derived.WalkSpells
import Derived.Deep.QuietTactic
import Derived.BigQuiet
import Derived.StillTailTactics
import Derived.Lib.Hide
import Derived.Recover

/- Plain functions on levels as lists of pairs of numbers: validity by heights, evaluation on a stack (its top first), and how the two hang together. Nothing of the program is imported. -/
namespace Go.Proofs.Ytmbcjddahncocaa.Lv

abbrev Tk := Int × Int

/-- one token alone is right -/
def tkOk (t : Tk) : Bool := decide (0 ≤ t.1) && decide (t.1 ≤ 4) && (decide (t.1 = 4) || decide (t.2 = 0)) && decide (0 ≤ t.2) && decide (t.2 < 5)

/-- one token on a stack, its top first -/
def step (env : List Int) (t : Tk) (st : List Int) : Option (List Int) :=
  if tkOk t = true then
    if t.1 = 0 then some (0 :: st)
    else if t.1 = 4 then some (env.getD t.2.toNat 0 :: st)
    else if t.1 = 1 then
      match st with
      | a :: s => some ((a + 1) :: s)
      | [] => none
    else
      match st with
      | b :: a :: s => some ((if t.1 = 3 ∧ b = 0 then 0 else max a b) :: s)
      | _ => none
  else none

end Go.Proofs.Ytmbcjddahncocaa.Lv

namespace Go.Proofs.Ytmbcjddahncocaa
open Go.RowKit

/-- the slice value '.slice A n c' reads as the pairs l; its cells lie below block B -/
def TokR (w : World) (B : Nat) (A : Option Addr) (n : Nat) (l : List (Int × Int)) : Prop :=
  l.length = n ∧ (0 < n → ∃ b off, A = some ⟨b, off, none⟩ ∧ b < B ∧ ∀ k, k < n →
    w.cell? ⟨b, off + k * 2, none⟩ = some (.int .i64 (l.getD k (0, 0)).1) ∧ w.cell? ⟨b, off + k * 2 + 1, none⟩ = some (.int .i64 (l.getD k (0, 0)).2))

/-- the slice value '.slice A n c' reads as the numbers l; its cells lie below block B -/
def IntR (w : World) (B : Nat) (A : Option Addr) (n : Nat) (l : List Int) : Prop :=
  l.length = n ∧ (0 < n → ∃ b off, A = some ⟨b, off, none⟩ ∧ b < B ∧ ∀ k, k < n → w.cell? ⟨b, off + k, none⟩ = some (.int .i64 (l.getD k 0)))

section
variable {w w' : World} {B B' n : Nat} {A : Option Addr}
theorem TokR.keep {l : List (Int × Int)} (h : TokR w B A n l) (hk : ∀ p : Addr, p.block < B → w'.cell? p = w.cell? p) : TokR w' B A n l :=
  ⟨h.1, fun hn => by
    obtain ⟨b, off, e, hb, hc⟩ := h.2 hn
    exact ⟨b, off, e, hb, fun k hk' => by rw [hk _ (by exact hb), hk _ (by exact hb)]; exact hc k hk'⟩⟩
theorem TokR.below {l : List (Int × Int)} (h : TokR w B A n l) (hb : Below B w w') : TokR w' B A n l := h.keep fun _ hp => hb.cell hp
theorem TokR.more {l : List (Int × Int)} (h : TokR w B A n l) (hB : B ≤ B') : TokR w B' A n l :=
  ⟨h.1, fun hn => by
    obtain ⟨b, off, e, hb, hc⟩ := h.2 hn
    exact ⟨b, off, e, by omega, hc⟩⟩
theorem IntR.keep {l : List Int} (h : IntR w B A n l) (hk : ∀ p : Addr, p.block < B → w'.cell? p = w.cell? p) : IntR w' B A n l :=
  ⟨h.1, fun hn => by
    obtain ⟨b, off, e, hb, hc⟩ := h.2 hn
    exact ⟨b, off, e, hb, fun k hk' => by rw [hk _ (by exact hb)]; exact hc k hk'⟩⟩
theorem IntR.below {l : List Int} (h : IntR w B A n l) (hb : Below B w w') : IntR w' B A n l := h.keep fun _ hp => hb.cell hp
theorem IntR.more {l : List Int} (h : IntR w B A n l) (hB : B ≤ B') : IntR w B' A n l :=
  ⟨h.1, fun hn => by
    obtain ⟨b, off, e, hb, hc⟩ := h.2 hn
    exact ⟨b, off, e, by omega, hc⟩⟩
end

/-- block g is just the cells cs of element type t, none of them frozen -/
def Blk (w : World) (g : Nat) (t : TypeId) (cs : Array Value) : Prop := w.heap[g]? = some (.cells cs t (0, 0))

section
variable {w w' : World} {g : Nat} {t : TypeId} {cs : Array Value}
theorem Blk.lt (h : Blk w g t cs) : g < w.heap.size := (Array.getElem?_eq_some_iff.1 h).1
theorem Blk.cell (h : Blk w g t cs) (i : Nat) : w.cell? ⟨g, i, none⟩ = cs[i]? := cell_of_row w g i cs t (0, 0) h
theorem Blk.made (w : World) (t : TypeId) (cs : Array Value) : Blk (w.alloc (.cells cs t)) w.heap.size t cs := heap_alloc_new w _
theorem Blk.alloc (h : Blk w g t cs) (o : Obj) : Blk (w.alloc o) g t cs := (Below.heap_alloc w o g h.lt).trans h
theorem Blk.put (h : Blk w g t cs) (i : Nat) (u : Value) : Blk (w.setCell ⟨g, i, none⟩ u) g t (cs.setIfInBounds i u) := by
  have h' : w.heap[g]? = some (.cells cs t (0, 0)) := h
  show (w.setCell ⟨g, i, none⟩ u).heap[g]? = _
  simp [World.setCell, Array.getElem?_modify, h']
theorem Blk.below {B : Nat} (h : Blk w g t cs) (hb : Below B w w') (hg : g < B) : Blk w' g t cs := (hb.block g hg).trans h
end

/-- a region that draws, whose first n operations only read: the draw said by its name -/
theorem region_tail {P : Program} {id : Nat} {Q : Exit → Act → World → Prop} {a : Act} {w : World} {l : List Oper} (n : Nat) (hm : P.follows .mixedOrders = true) (hB : Region.lexTailB .any l.toArray n = true)
    (h : wpStill P l.toArray w.drew (fun a' => wpList P l.toArray Q (l.drop n) a' w.drew) (l.take n) a) : (Code.region id l.toArray true).wp P Q a w :=
  wp_region_still_tail n hm hB h

end Go.Proofs.Ytmbcjddahncocaa

namespace Go.Proofs.Ytmbcjddahncocaa
open Go.RowKit

/-- block g is a row of just n numbers, those of l -/
def IntOwn (w : World) (g n : Nat) (l : List Int) : Prop :=
  l.length = n ∧ ∃ cs, Blk w g 3 cs ∧ cs.size = n ∧ ∀ k, k < n → cs[k]? = some (.int .i64 (l.getD k 0))
theorem IntOwn.reads {w : World} {g n : Nat} {l : List Int} (h : IntOwn w g n l) : IntR w (g + 1) (some ⟨g, 0, none⟩) n l := by
  obtain ⟨hl, cs, hb, hs, hc⟩ := h
  refine ⟨hl, fun _ => ⟨g, 0, rfl, by omega, fun k hk => ?_⟩⟩
  rw [hb.cell, Nat.zero_add]
  exact hc k hk

end Go.Proofs.Ytmbcjddahncocaa

namespace Go.Proofs.Ytmbcjddahncocaa
open Go.RowKit

/-- a row of the call's own, of numbers -/
abbrev OwnI (w : World) (base : Nat) (A : Option Addr) (n c : Nat) (l : List Int) : Prop := w.ownsRow base 3 1 (.slice A n c) n (l.map (Value.int .i64))
theorem own_adds {g j : Nat} : (⟨g, 0, none⟩ : Addr).add j = ⟨g, j, none⟩ := by
  unfold Addr.add
  by_cases h : j = 0
  · subst h; rfl
  · rw [if_neg h]; simp

theorem OwnI.reads {w : World} {base : Nat} {A : Option Addr} {n c : Nat} {l : List Int} (h : OwnI w base A n c l) : IntR w w.heap.size A n l := by
  have hl : l.length = n := by have := h.1; simpa using this
  refine ⟨hl, fun hn => ?_⟩
  rcases h.2 with ⟨_, h0⟩ | ⟨g, cap, cur, hv, hb, hgg, h1, h2, h3, h4⟩
  · omega
  · injection hv with e1 e2 e3
    subst e1
    refine ⟨g, 0, rfl, (Array.getElem?_eq_some_iff.1 hgg).1, fun k hk => ?_⟩
    have := h.cells (g := g) rfl k (.int .i64 (l.getD k 0)) (by
      have hk' : k < l.length := by omega
      simp [List.getD_eq_getElem?_getD, List.getElem?_eq_getElem hk'])
    rw [own_adds] at this
    rw [Nat.zero_add]
    exact this

end Go.Proofs.Ytmbcjddahncocaa

/- Plain facts for constraints: a table of the longest ways between six nodes, made step by step in place; what it tells of the values that satisfy all constraints. Nothing of the program is imported. -/
namespace Go.Proofs.Ytmbcjddahncocaa.Cs

/-- a table of numbers between nodes -/
abbrev Tb := Nat → Nat → Int
def put (d : Tb) (i j : Nat) (x : Int) : Tb := fun a b => if a = i ∧ b = j then x else d a b
theorem put_same (d : Tb) (i j : Nat) (x : Int) : put d i j x i j = x := by simp [put]
theorem put_other (d : Tb) {i j a b : Nat} (x : Int) (h : ¬ (a = i ∧ b = j)) : put d i j x a b = d a b := by simp only [put, if_neg h]
/-- one step: the way by k -/
def relax (k i j : Nat) (d : Tb) : Tb := if 0 ≤ d i k ∧ 0 ≤ d k j then put d i j (min 1000 (max (d i j) (d i k + d k j))) else d
def relaxJ (k i : Nat) : Nat → Tb → Tb
  | 0, d => d
  | n + 1, d => relax k i n (relaxJ k i n d)
def relaxI (k : Nat) : Nat → Tb → Tb
  | 0, d => d
  | n + 1, d => relaxJ k n 6 (relaxI k n d)
def relaxK : Nat → Tb → Tb
  | 0, d => d
  | n + 1, d => relaxI n 6 (relaxK n d)

/-- values that keep all distances of the table -/
def Keeps (v : Nat → Int) (d : Tb) : Prop := ∀ i j, 0 ≤ d i j → v i + d i j ≤ v j
theorem Keeps.relax {v : Nat → Int} {d : Tb} (h : Keeps v d) (k i j : Nat) : Keeps v (relax k i j d) := by
  unfold Cs.relax
  split
  · rename_i hc
    intro a b hab
    by_cases e : a = i ∧ b = j
    · obtain ⟨rfl, rfl⟩ := e
      rw [put_same] at hab ⊢
      have h1 := h a k hc.1
      have h2 := h k b hc.2
      by_cases h3 : 0 ≤ d a b
      · have := h a b h3; omega
      · omega
    · rw [put_other d _ e] at hab ⊢
      exact h a b hab
  · exact h
theorem Keeps.relaxJ {v : Nat → Int} {d : Tb} (h : Keeps v d) (k i : Nat) : ∀ n, Keeps v (relaxJ k i n d)
  | 0 => h
  | n + 1 => (Keeps.relaxJ h k i n).relax k i n
theorem Keeps.relaxI {v : Nat → Int} {d : Tb} (h : Keeps v d) (k : Nat) : ∀ n, Keeps v (relaxI k n d)
  | 0 => h
  | n + 1 => (Keeps.relaxI h k n).relaxJ k n 6
theorem Keeps.relaxK {v : Nat → Int} {d : Tb} (h : Keeps v d) : ∀ n, Keeps v (relaxK n d)
  | 0 => h
  | n + 1 => (Keeps.relaxK h n).relaxI n 6

/-- the table only grows, and no further than 1000 -/
def Up (d e : Tb) : Prop := ∀ i j, d i j ≤ e i j ∧ e i j ≤ 1000
theorem Up.refl {d : Tb} (h : ∀ i j, d i j ≤ 1000) : Up d d := fun i j => ⟨Int.le_refl _, h i j⟩
theorem Up.trans {a b c : Tb} (h : Up a b) (k : Up b c) : Up a c := fun i j => ⟨Int.le_trans (h i j).1 (k i j).1, (k i j).2⟩
theorem Up.relax {d : Tb} (h : ∀ i j, d i j ≤ 1000) (k i j : Nat) : Up d (relax k i j d) := by
  unfold Cs.relax
  split
  · intro a b
    by_cases e : a = i ∧ b = j
    · obtain ⟨rfl, rfl⟩ := e
      rw [put_same]
      have := h a b
      omega
    · rw [put_other d _ e]
      exact ⟨Int.le_refl _, h a b⟩
  · exact Up.refl h
theorem Up.relaxJ {d : Tb} (h : ∀ i j, d i j ≤ 1000) (k i : Nat) : ∀ n, Up d (relaxJ k i n d)
  | 0 => Up.refl h
  | n + 1 => (Up.relaxJ h k i n).trans (Up.relax (fun a b => (Up.relaxJ h k i n a b).2) k i n)
theorem Up.relaxI {d : Tb} (h : ∀ i j, d i j ≤ 1000) (k : Nat) : ∀ n, Up d (relaxI k n d)
  | 0 => Up.refl h
  | n + 1 => (Up.relaxI h k n).trans (Up.relaxJ (fun a b => (Up.relaxI h k n a b).2) k n 6)
theorem Up.relaxK {d : Tb} (h : ∀ i j, d i j ≤ 1000) : ∀ n, Up d (relaxK n d)
  | 0 => Up.refl h
  | n + 1 => (Up.relaxK h n).trans (Up.relaxI (fun a b => (Up.relaxK h n a b).2) n 6)

end Go.Proofs.Ytmbcjddahncocaa.Cs

namespace Go.Proofs.Ytmbcjddahncocaa.Cs

/-- a constraint: U, Rel, V -/
abbrev Cn := Int × Int × Int
def node (n : Int) : Nat := (n + 1).toNat
def cOk (c : Cn) : Bool := decide (-1 ≤ c.1) && decide (c.1 < 5) && decide (-1 ≤ c.2.2) && decide (c.2.2 < 5) && decide (0 ≤ c.2.1) && decide (c.2.1 ≤ 2)
def base : Tb := fun i j => if i = j ∨ i = 0 then 0 else -1
def add1 (d : Tb) (c : Cn) : Tb := put d (node c.1) (node c.2.2) (max (d (node c.1) (node c.2.2)) (if c.2.1 = 1 then 1 else 0))
def addC (d : Tb) (c : Cn) : Tb := if c.2.1 = 2 then put (add1 d c) (node c.2.2) (node c.1) (max (add1 d c (node c.2.2) (node c.1)) 0) else add1 d c
def start (l : List Cn) : Tb := l.foldl addC base
/-- the table of a list -/
def tab (l : List Cn) : Tb := relaxK 6 (start l)
/-- no way goes round and grows -/
def flat (l : List Cn) : Bool := (List.range 6).all fun i => decide (tab l i i ≤ 0)
end Go.Proofs.Ytmbcjddahncocaa.Cs

namespace Go.Proofs.Ytmbcjddahncocaa.Cs

def ok (l : List Cn) : Prop := ∀ c ∈ l, cOk c = true
section
variable {l : List Cn} (hf : flat l = true)
include hf
end
/-- values in which node i is N higher than it must be, and all that must follow it -/
def lifted (l : List Cn) (i : Nat) (N : Int) : Nat → Int := fun x => if 0 ≤ tab l i x then max (tab l 0 x) (N + tab l i x) else tab l 0 x
end Go.Proofs.Ytmbcjddahncocaa.Cs

namespace Go.Proofs.Ytmbcjddahncocaa
open Go.RowKit
open Cs (Cn)

/-- the slice value '.slice A n c' reads as the constraints l; its cells lie below block B -/
def ConR (w : World) (B : Nat) (A : Option Addr) (n : Nat) (l : List Cn) : Prop :=
  l.length = n ∧ (0 < n → ∃ b off, A = some ⟨b, off, none⟩ ∧ b < B ∧ ∀ k, k < n →
    w.cell? ⟨b, off + k * 3, none⟩ = some (.int .i64 (l.getD k (0, 0, 0)).1) ∧ w.cell? ⟨b, off + k * 3 + 1, none⟩ = some (.int .i64 (l.getD k (0, 0, 0)).2.1) ∧ w.cell? ⟨b, off + k * 3 + 2, none⟩ = some (.int .i64 (l.getD k (0, 0, 0)).2.2))
section
variable {w w' : World} {B B' n : Nat} {A : Option Addr}
theorem ConR.keep {l : List Cn} (h : ConR w B A n l) (hk : ∀ p : Addr, p.block < B → w'.cell? p = w.cell? p) : ConR w' B A n l :=
  ⟨h.1, fun hn => by
    obtain ⟨b, off, e, hb, hc⟩ := h.2 hn
    exact ⟨b, off, e, hb, fun k hk' => by rw [hk _ (by exact hb), hk _ (by exact hb), hk _ (by exact hb)]; exact hc k hk'⟩⟩
theorem ConR.below {l : List Cn} (h : ConR w B A n l) (hb : Below B w w') : ConR w' B A n l := h.keep fun _ hp => hb.cell hp
theorem ConR.more {l : List Cn} (h : ConR w B A n l) (hB : B ≤ B') : ConR w B' A n l :=
  ⟨h.1, fun hn => by
    obtain ⟨b, off, e, hb, hc⟩ := h.2 hn
    exact ⟨b, off, e, by omega, hc⟩⟩
end
/-- the cells of a list of constraints -/
def conCells (l : List Cn) : List Value := l.flatMap fun t => [.int .i64 t.1, .int .i64 t.2.1, .int .i64 t.2.2]
theorem conCells_cons (t : Cn) (l : List Cn) : conCells (t :: l) = .int .i64 t.1 :: .int .i64 t.2.1 :: .int .i64 t.2.2 :: conCells l := rfl
theorem conCells_len (l : List Cn) : (conCells l).length = l.length * 3 := by
  induction l with
  | nil => rfl
  | cons t r ih => rw [conCells_cons]; simp [ih]; omega
theorem conCells_at (l : List Cn) (k : Nat) (hk : k < l.length) : (conCells l)[k * 3]? = some (.int .i64 (l.getD k (0, 0, 0)).1) ∧ (conCells l)[k * 3 + 1]? = some (.int .i64 (l.getD k (0, 0, 0)).2.1) ∧ (conCells l)[k * 3 + 2]? = some (.int .i64 (l.getD k (0, 0, 0)).2.2) := by
  induction l generalizing k with
  | nil => simp at hk
  | cons t r ih =>
    rw [conCells_cons]
    cases k with
    | zero => exact ⟨rfl, rfl, rfl⟩
    | succ k =>
      have h := ih k (by simpa using hk)
      rw [show (k + 1) * 3 = k * 3 + 1 + 1 + 1 by omega]
      exact h
/-- a row of the call's own, of constraints -/
abbrev OwnC (w : World) (base : Nat) (A : Option Addr) (n c : Nat) (l : List Cn) : Prop := w.ownsRow base 52 3 (.slice A n c) n (conCells l)
theorem OwnC.reads {w : World} {base : Nat} {A : Option Addr} {n c : Nat} {l : List Cn} (h : OwnC w base A n c l) : ConR w w.heap.size A n l := by
  have hl : l.length = n := by have := h.1; rw [conCells_len] at this; omega
  refine ⟨hl, fun hn => ?_⟩
  rcases h.2 with ⟨_, h0⟩ | ⟨g, cap, cur, hv, hb, hgg, h1, h2, h3, h4⟩
  · omega
  · injection hv with e1 e2 e3
    subst e1
    refine ⟨g, 0, rfl, (Array.getElem?_eq_some_iff.1 hgg).1, fun k hk => ?_⟩
    have hat := conCells_at l k (by omega)
    have c1 := h.cells (g := g) rfl (k * 3) _ hat.1
    have c2 := h.cells (g := g) rfl (k * 3 + 1) _ hat.2.1
    have c3 := h.cells (g := g) rfl (k * 3 + 2) _ hat.2.2
    rw [own_adds] at c1 c2 c3
    rw [Nat.zero_add]
    exact ⟨c1, c2, c3⟩
end Go.Proofs.Ytmbcjddahncocaa

namespace Go.Proofs.Ytmbcjddahncocaa
open Go.RowKit
open Cs (Cn)

/-- block g is a row of just n constraints, those of l -/
def ConOwn (w : World) (g n : Nat) (l : List Cn) : Prop :=
  l.length = n ∧ ∃ cs, Blk w g 52 cs ∧ cs.size = n * 3 ∧ ∀ k, k < n → cs[k * 3]? = some (.int .i64 (l.getD k (0, 0, 0)).1) ∧ cs[k * 3 + 1]? = some (.int .i64 (l.getD k (0, 0, 0)).2.1) ∧ cs[k * 3 + 2]? = some (.int .i64 (l.getD k (0, 0, 0)).2.2)
theorem ConOwn.lt {w : World} {g n : Nat} {l : List Cn} (h : ConOwn w g n l) : g + 1 ≤ w.heap.size := by obtain ⟨_, cs, hblk, _⟩ := h; exact hblk.lt
theorem ConOwn.reads {w : World} {g n : Nat} {l : List Cn} (h : ConOwn w g n l) : ConR w (g + 1) (some ⟨g, 0, none⟩) n l := by
  obtain ⟨hl, cs, hb, hs, hc⟩ := h
  refine ⟨hl, fun _ => ⟨g, 0, rfl, by omega, fun k hk => ?_⟩⟩
  rw [hb.cell, hb.cell, hb.cell, Nat.zero_add]
  exact hc k hk
theorem ConOwn.below {w w' : World} {g n B : Nat} {l : List Cn} (h : ConOwn w g n l) (hb : Below B w w') (hg : g < B) : ConOwn w' g n l := by
  obtain ⟨hl, cs, hblk, rest⟩ := h
  exact ⟨hl, cs, hblk.below hb hg, rest⟩
end Go.Proofs.Ytmbcjddahncocaa

namespace Go.Proofs.Ytmbcjddahncocaa
open Go.RowKit

/-- a row of one empty frame -/
def FrR (w : World) (g : Nat) : Prop := Blk w g 45 #[.slice none 0 0, .slice none 0 0]
abbrev frV (g : Nat) : Value := .slice (some ⟨g, 0, none⟩) 1 1
abbrev ssV (g : Nat) : Value := .agg #[.slice (some ⟨g, 0, none⟩) 1 1]
theorem fr_made {X : World} {g : Nat} (h : g = X.heap.size) : FrR (X.alloc (.cells #[.slice none 0 0, .slice none 0 0] 45)) g := by subst h; exact Blk.made _ _ _
def SessNewOut (w : World) (e : Ending) (w' : World) : Prop := ∃ g, e = .returned (ssV g) ∧ w.heap.size ≤ g ∧ FrR w' g ∧ Below w.heap.size w w'

set_option maxRecDepth 100000 in
set_option maxHeartbeats 1600000 in
theorem specSessNew_any (w : World) : Calls Try.prog 7 #[] w (SessNewOut w) := by
  go_enter Try.func7, Try.ntmps7
  go_wp2
  have hblk : Blk ((w.alloc (.cells #[.slice (some ⟨w.heap.size + 1, 0, none⟩) 1 1] 24)).alloc (.cells #[.slice none 0 0, .slice none 0 0] 45)) w.heap.size 24 #[.slice (some ⟨w.heap.size + 1, 0, none⟩) 1 1] := (Blk.made _ _ _).alloc _
  have hres : ((w.alloc (.cells #[.slice (some ⟨w.heap.size + 1, 0, none⟩) 1 1] 24)).alloc (.cells #[.slice none 0 0, .slice none 0 0] 45)).cell? ⟨w.heap.size, 0, none⟩ = some (.slice (some ⟨w.heap.size + 1, 0, none⟩) 1 1) := hblk.cell 0
  exact bodyPost_ret (v := ssV (w.heap.size + 1)) (by simp [results, Try.results7, go_sem, hres]) rfl ⟨w.heap.size + 1, rfl, by omega, fr_made (by rw [World.size_alloc]), ((Below.refl _ _).alloc (Nat.le_refl _) _).alloc (by simp) _⟩
set_option maxRecDepth 100000 in
set_option maxHeartbeats 1600000 in
theorem implSessNew_any (w : World) : Calls Try.prog 8 #[] w (SessNewOut w) := by
  go_enter Try.func8, Try.ntmps8
  go_wp2
  have hblk : Blk ((w.alloc (.cells #[.slice (some ⟨w.heap.size + 1, 0, none⟩) 1 1] 24)).alloc (.cells #[.slice none 0 0, .slice none 0 0] 45)) w.heap.size 24 #[.slice (some ⟨w.heap.size + 1, 0, none⟩) 1 1] := (Blk.made _ _ _).alloc _
  have hres : ((w.alloc (.cells #[.slice (some ⟨w.heap.size + 1, 0, none⟩) 1 1] 24)).alloc (.cells #[.slice none 0 0, .slice none 0 0] 45)).cell? ⟨w.heap.size, 0, none⟩ = some (.slice (some ⟨w.heap.size + 1, 0, none⟩) 1 1) := hblk.cell 0
  exact bodyPost_ret (v := ssV (w.heap.size + 1)) (by simp [results, Try.results8, go_sem, hres]) rfl ⟨w.heap.size + 1, rfl, by omega, fr_made (by rw [World.size_alloc]), ((Below.refl _ _).alloc (Nat.le_refl _) _).alloc (by simp) _⟩
theorem markInt0 (w : World) (k : Nat) : Calls Try.prog 19 #[.slice none 0 0, .int .i64 k] w fun e w' => e = .returned (.int .i64 k) ∧ w = w' := by
  go_enter Try.func19, Try.ntmps19
  go_wp2
  go_loop [1, 5] (fun m i => m = .int .i64 k ∧ i = .int .i64 0) (fun _ _ => 0)
  case atStart => exact ⟨rfl, rfl⟩
  case round =>
    obtain ⟨rfl, rfl⟩ := hrel
    go_wp2
    go_ret
    exact ⟨rfl, rfl⟩
theorem markCon0 (w : World) (k : Nat) : Calls Try.prog 24 #[.slice none 0 0, .int .i64 k] w fun e w' => e = .returned (.int .i64 k) ∧ w = w' := by
  go_enter Try.func24, Try.ntmps24
  go_wp2
  go_loop [1, 5] (fun m i => m = .int .i64 k ∧ i = .int .i64 0) (fun _ _ => 0)
  case atStart => exact ⟨rfl, rfl⟩
  case round =>
    obtain ⟨rfl, rfl⟩ := hrel
    go_wp2
    go_ret
    exact ⟨rfl, rfl⟩
theorem heldInt0 (w : World) (k : Nat) : Calls Try.prog 20 #[.slice none 0 0, .int .i64 k] w fun e w' => e = .returned (.int .i64 k) ∧ w = w' := by
  go_enter Try.func20, Try.ntmps20
  go_wp2
  go_loop [1, 5] (fun m i => m = .int .i64 k ∧ i = .int .i64 0) (fun _ _ => 0)
  case atStart => exact ⟨rfl, rfl⟩
  case round =>
    obtain ⟨rfl, rfl⟩ := hrel
    go_wp2
    go_ret
    exact ⟨rfl, rfl⟩
theorem heldCon0 (w : World) (k : Nat) : Calls Try.prog 25 #[.slice none 0 0, .int .i64 k] w fun e w' => e = .returned (.int .i64 k) ∧ w = w' := by
  go_enter Try.func25, Try.ntmps25
  go_wp2
  go_loop [1, 5] (fun m i => m = .int .i64 k ∧ i = .int .i64 0) (fun _ _ => 0)
  case atStart => exact ⟨rfl, rfl⟩
  case round =>
    obtain ⟨rfl, rfl⟩ := hrel
    go_wp2
    go_ret
    exact ⟨rfl, rfl⟩
theorem eqInt0 (w : World) : Calls Try.prog 18 #[.slice none 0 0, .slice none 0 0] w fun e w' => e = .returned (.bool true) ∧ w = w' := by
  go_enter Try.func18, Try.ntmps18
  go_wp2
  go_loop [5] (fun i => i = .int .i64 0) (fun _ => 0)
  case atStart => exact rfl
  case round =>
    obtain rfl := hrel
    go_wp2
    go_ret
    exact ⟨rfl, rfl⟩
theorem eqCon0 (w : World) : Calls Try.prog 23 #[.slice none 0 0, .slice none 0 0] w fun e w' => e = .returned (.bool true) ∧ w = w' := by
  go_enter Try.func23, Try.ntmps23
  go_wp2
  go_loop [5] (fun i => i = .int .i64 0) (fun _ => 0)
  case atStart => exact rfl
  case round =>
    obtain rfl := hrel
    go_wp2
    go_ret
    exact ⟨rfl, rfl⟩
theorem eqFrame0 (w : World) : Calls Try.prog 41 #[.agg #[.slice none 0 0, .slice none 0 0], .agg #[.slice none 0 0, .slice none 0 0]] w fun e w' => e = .returned (.bool true) ∧ Below w.heap.size w w' := by
  have HB : Hid (Below w.heap.size w ((w.alloc (.cells #[.slice none 0 0, .slice none 0 0] 45)).alloc (.cells #[.slice none 0 0, .slice none 0 0] 45))) := ((Below.refl _ _).alloc (Nat.le_refl _) _).alloc (by simp) _
  go_enter Try.func41, Try.ntmps41
  go_wp2_with fail
  refine (eqInt0 _).mono ?_
  rintro e w1 ⟨rfl, rfl⟩
  go_wp2_with fail
  refine (eqCon0 _).mono ?_
  rintro e w2 ⟨rfl, rfl⟩
  go_wp2
  go_ret
  exact ⟨rfl, HB.out⟩
set_option maxRecDepth 100000 in
set_option maxHeartbeats 1600000 in
theorem eqFrameS0 (w : World) (g1 g2 : Nat) (h1 : FrR w g1) (h2 : FrR w g2) : Calls Try.prog 26 #[frV g1, frV g2] w fun e w' => e = .returned (.bool true) ∧ Below w.heap.size w w' := by
  have a0 : w.cell? ⟨g1, 0, none⟩ = some (.slice none 0 0) := h1.cell 0
  have a1 : w.cell? ⟨g1, 1, none⟩ = some (.slice none 0 0) := h1.cell 1
  have b0 : w.cell? ⟨g2, 0, none⟩ = some (.slice none 0 0) := h2.cell 0
  have b1 : w.cell? ⟨g2, 1, none⟩ = some (.slice none 0 0) := h2.cell 1
  have HH1 := Lib.hid h1
  have HH2 := Lib.hid h2
  clear h1 h2
  go_enter Try.func26, Try.ntmps26
  go_wp2
  go_loopw [5] (fun i wr => ∃ k : Nat, k ≤ 1 ∧ i = .int .i64 k ∧ Below w.heap.size w wr ∧ (k = 0 → wr = w)) (fun i _ => 1 - (intOf i).toNat)
  case atStart => exact ⟨0, Nat.zero_le _, rfl, Below.refl _ _, fun _ => rfl⟩
  case round =>
    obtain ⟨k, hk, rfl, hbel, hw0⟩ := hrel
    by_cases hlt : k < 1
    · obtain rfl : k = 0 := by omega
      obtain rfl := hw0 rfl
      clear hw0 hbel hlt hk
      go_wp2_with fail
      refine region_tail 8 (by kernel_rfl) (by kernel_rfl) ?_
      simp only [List.take_succ_cons, List.take_zero, List.drop_succ_cons, List.drop_zero]
      repeat still_step
      refine wpStill_nil ?_
      go_wp2_with fail
      refine (eqFrame0 _).mono ?_
      rintro e w1 ⟨rfl, hb1⟩
      have HB := Lib.hid ((Below.refl _ _).drew.trans hb1)
      clear hb1
      go_wp2
      go_roundw
      case rel => exact ⟨1, by omega, by go_num, HB.out, fun h => by omega⟩
      case measure => simp [intOf]
    · obtain rfl : k = 1 := by omega
      clear hw0
      go_wp2
      go_ret
      exact ⟨rfl, hbel⟩
theorem eqSess0 (w : World) (g1 g2 : Nat) (h1 : FrR w g1) (h2 : FrR w g2) : Calls Try.prog 9 #[ssV g1, ssV g2] w fun e w' => e = .returned (.bool true) ∧ Below w.heap.size w w' := by
  have HB : Hid (Below w.heap.size w ((w.alloc (.cells #[frV g1] 24)).alloc (.cells #[frV g2] 24))) := ((Below.refl _ _).alloc (Nat.le_refl _) _).alloc (by simp) _
  have HH1 : Hid (FrR ((w.alloc (.cells #[frV g1] 24)).alloc (.cells #[frV g2] 24)) g1) := (Blk.alloc h1 _).alloc _
  have HH2 : Hid (FrR ((w.alloc (.cells #[frV g1] 24)).alloc (.cells #[frV g2] 24)) g2) := (Blk.alloc h2 _).alloc _
  clear h1 h2
  go_enter Try.func9, Try.ntmps9
  go_wp2_with fail
  refine (eqFrameS0 _ g1 g2 HH1.out HH2.out).mono ?_
  rintro e w1 ⟨rfl, hb1⟩
  have HB1 := Lib.hid (HB.out.trans (hb1.mono (by simp; omega)))
  clear hb1
  go_wp2
  go_ret
  exact ⟨rfl, HB1.out⟩
set_option maxRecDepth 100000 in
set_option maxHeartbeats 1600000 in
theorem markFrameS0 (w : World) (g : Nat) (h : FrR w g) (m : Nat) : Calls Try.prog 27 #[frV g, .int .i64 m] w fun e w' => e = .returned (.int .i64 m) ∧ w = w' := by
  have a0 : w.cell? ⟨g, 0, none⟩ = some (.slice none 0 0) := h.cell 0
  have a1 : w.cell? ⟨g, 1, none⟩ = some (.slice none 0 0) := h.cell 1
  clear h
  go_enter Try.func27, Try.ntmps27
  go_wp2
  go_loop [1, 5] (fun x i => ∃ k : Nat, k ≤ 1 ∧ i = .int .i64 k ∧ x = .int .i64 m) (fun _ i => 1 - (intOf i).toNat)
  case atStart => exact ⟨0, Nat.zero_le _, rfl, rfl⟩
  case round =>
    obtain ⟨k, hk, rfl, rfl⟩ := hrel
    by_cases hlt : k < 1
    · obtain rfl : k = 0 := by omega
      clear hlt hk
      go_wp2_with fail
      refine (markInt0 w m).mono ?_
      rintro e w1 ⟨rfl, rfl⟩
      go_wp2_with fail
      refine (markCon0 w m).mono ?_
      rintro e w1 ⟨rfl, rfl⟩
      go_wp2
      go_round
      case rel => exact ⟨1, by omega, by go_num, rfl⟩
      case measure => simp [intOf]
    · obtain rfl : k = 1 := by omega
      go_wp2
      go_ret
      exact ⟨rfl, rfl⟩
set_option maxRecDepth 100000 in
set_option maxHeartbeats 1600000 in
theorem heldFrameS0 (w : World) (g : Nat) (h : FrR w g) (m : Nat) : Calls Try.prog 28 #[frV g, .int .i64 m] w fun e w' => e = .returned (.int .i64 m) ∧ w = w' := by
  have a0 : w.cell? ⟨g, 0, none⟩ = some (.slice none 0 0) := h.cell 0
  have a1 : w.cell? ⟨g, 1, none⟩ = some (.slice none 0 0) := h.cell 1
  have hm0 : ¬ ((m : Int) < 0) := by omega
  clear h
  go_enter Try.func28, Try.ntmps28
  go_wp2
  go_loop [1, 5] (fun x i => ∃ k : Nat, k ≤ 1 ∧ i = .int .i64 k ∧ x = .int .i64 m) (fun _ i => 1 - (intOf i).toNat)
  case atStart => exact ⟨0, Nat.zero_le _, rfl, rfl⟩
  case round =>
    obtain ⟨k, hk, rfl, rfl⟩ := hrel
    by_cases hlt : k < 1
    · obtain rfl : k = 0 := by omega
      clear hlt hk
      go_wp2_with fail
      refine (heldInt0 w m).mono ?_
      rintro e w1 ⟨rfl, rfl⟩
      go_wp2_with fail
      refine (heldCon0 w m).mono ?_
      rintro e w1 ⟨rfl, rfl⟩
      go_wp2
      go_round
      case rel => exact ⟨1, by omega, by go_num, rfl⟩
      case measure => simp [intOf]
    · obtain rfl : k = 1 := by omega
      go_wp2
      go_ret
      exact ⟨rfl, rfl⟩
theorem markSess0 (w : World) (g : Nat) (h : FrR w g) (m : Nat) : Calls Try.prog 10 #[ssV g, .int .i64 m] w fun e w' => e = .returned (.int .i64 m) ∧ Below w.heap.size w w' := by
  have HB : Hid (Below w.heap.size w (w.alloc (.cells #[frV g] 24))) := (Below.refl _ _).alloc (Nat.le_refl _) _
  have HH : Hid (FrR (w.alloc (.cells #[frV g] 24)) g) := Blk.alloc h _
  clear h
  go_enter Try.func10, Try.ntmps10
  go_wp2_with fail
  refine (markFrameS0 _ g HH.out m).mono ?_
  rintro e w1 ⟨rfl, rfl⟩
  go_wp2
  go_ret
  exact ⟨rfl, HB.out⟩
theorem heldSess0 (w : World) (g : Nat) (h : FrR w g) (m : Nat) : Calls Try.prog 11 #[ssV g, .int .i64 m] w fun e w' => e = .returned (.int .i64 m) ∧ Below w.heap.size w w' := by
  have HB : Hid (Below w.heap.size w (w.alloc (.cells #[frV g] 24))) := (Below.refl _ _).alloc (Nat.le_refl _) _
  have HH : Hid (FrR (w.alloc (.cells #[frV g] 24)) g) := Blk.alloc h _
  have hm0 : ¬ ((m : Int) < 0) := by omega
  clear h
  go_enter Try.func11, Try.ntmps11
  go_wp2_with fail
  refine (heldFrameS0 _ g HH.out m).mono ?_
  rintro e w1 ⟨rfl, rfl⟩
  go_wp2
  go_ret
  exact ⟨rfl, HB.out⟩
end Go.Proofs.Ytmbcjddahncocaa
