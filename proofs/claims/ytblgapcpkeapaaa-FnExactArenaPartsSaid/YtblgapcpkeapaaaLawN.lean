/- Plain facts for constraints: the table that is made out of a list of constraints; what it tells of the values that satisfy them. -/
/- Plain facts for constraints: when a list is satisfiable, its least values, and what it implies. -/
/- Plain facts for constraints: what is implied; what is left when the constraints are considered one by one and each is removed that is not needed. -/
/- Words for memory: a slice that reads as a list of nodes; one that a call owns. -/
/- Nodes as a map's keys: what they read as; the map of an arena in the words of a list. -/
/- The laws' own helpers on nodes and slices of them: sizes, copies, comparison, marks. -/
import Derived.Test.YtblgapcpkeapaaaMarks
import Derived.Maps.OwnSet
import Derived.Maps.OwnOps
import Derived.DeepKeys4

/- Plain facts for constraints: a table of the longest ways between six nodes, made step by step in place; what it tells of the values that satisfy all constraints. Nothing of the program is imported. -/
namespace Go.Proofs.Ytblgapcpkeapaaa.Cs

/-- a table of numbers between nodes -/
abbrev Tb := Nat → Nat → Int
def put (d : Tb) (i j : Nat) (x : Int) : Tb := fun a b => if a = i ∧ b = j then x else d a b
theorem put_same (d : Tb) (i j : Nat) (x : Int) : put d i j x i j = x := by simp [put]
theorem put_other (d : Tb) {i j a b : Nat} (x : Int) (h : ¬ (a = i ∧ b = j)) : put d i j x a b = d a b := by simp only [put, if_neg h]
/-- one step: the way by k -/
def relax (k i j : Nat) (d : Tb) : Tb := if 0 ≤ d i k ∧ 0 ≤ d k j then put d i j (min 1000 (max (d i j) (d i k + d k j))) else d
def relaxJ (k i : Nat) : Nat → Tb → Tb
  | 0, d => d
  | n + 1, d => relax k i n (relaxJ k i n d)
def relaxI (k : Nat) : Nat → Tb → Tb
  | 0, d => d
  | n + 1, d => relaxJ k n 6 (relaxI k n d)
def relaxK : Nat → Tb → Tb
  | 0, d => d
  | n + 1, d => relaxI n 6 (relaxK n d)

/-- values that keep all distances of the table -/
def Keeps (v : Nat → Int) (d : Tb) : Prop := ∀ i j, 0 ≤ d i j → v i + d i j ≤ v j
theorem Keeps.relax {v : Nat → Int} {d : Tb} (h : Keeps v d) (k i j : Nat) : Keeps v (relax k i j d) := by
  unfold Cs.relax
  split
  · rename_i hc
    intro a b hab
    by_cases e : a = i ∧ b = j
    · obtain ⟨rfl, rfl⟩ := e
      rw [put_same] at hab ⊢
      have h1 := h a k hc.1
      have h2 := h k b hc.2
      by_cases h3 : 0 ≤ d a b
      · have := h a b h3; omega
      · omega
    · rw [put_other d _ e] at hab ⊢
      exact h a b hab
  · exact h
theorem Keeps.relaxJ {v : Nat → Int} {d : Tb} (h : Keeps v d) (k i : Nat) : ∀ n, Keeps v (relaxJ k i n d)
  | 0 => h
  | n + 1 => (Keeps.relaxJ h k i n).relax k i n
theorem Keeps.relaxI {v : Nat → Int} {d : Tb} (h : Keeps v d) (k : Nat) : ∀ n, Keeps v (relaxI k n d)
  | 0 => h
  | n + 1 => (Keeps.relaxI h k n).relaxJ k n 6
theorem Keeps.relaxK {v : Nat → Int} {d : Tb} (h : Keeps v d) : ∀ n, Keeps v (relaxK n d)
  | 0 => h
  | n + 1 => (Keeps.relaxK h n).relaxI n 6

/-- the table only grows, and no further than 1000 -/
def Up (d e : Tb) : Prop := ∀ i j, d i j ≤ e i j ∧ e i j ≤ 1000
theorem Up.refl {d : Tb} (h : ∀ i j, d i j ≤ 1000) : Up d d := fun i j => ⟨Int.le_refl _, h i j⟩
theorem Up.trans {a b c : Tb} (h : Up a b) (k : Up b c) : Up a c := fun i j => ⟨Int.le_trans (h i j).1 (k i j).1, (k i j).2⟩
theorem Up.relax {d : Tb} (h : ∀ i j, d i j ≤ 1000) (k i j : Nat) : Up d (relax k i j d) := by
  unfold Cs.relax
  split
  · intro a b
    by_cases e : a = i ∧ b = j
    · obtain ⟨rfl, rfl⟩ := e
      rw [put_same]
      have := h a b
      omega
    · rw [put_other d _ e]
      exact ⟨Int.le_refl _, h a b⟩
  · exact Up.refl h
theorem Up.relaxJ {d : Tb} (h : ∀ i j, d i j ≤ 1000) (k i : Nat) : ∀ n, Up d (relaxJ k i n d)
  | 0 => Up.refl h
  | n + 1 => (Up.relaxJ h k i n).trans (Up.relax (fun a b => (Up.relaxJ h k i n a b).2) k i n)
theorem Up.relaxI {d : Tb} (h : ∀ i j, d i j ≤ 1000) (k : Nat) : ∀ n, Up d (relaxI k n d)
  | 0 => Up.refl h
  | n + 1 => (Up.relaxI h k n).trans (Up.relaxJ (fun a b => (Up.relaxI h k n a b).2) k n 6)
theorem Up.relaxK {d : Tb} (h : ∀ i j, d i j ≤ 1000) : ∀ n, Up d (relaxK n d)
  | 0 => Up.refl h
  | n + 1 => (Up.relaxK h n).trans (Up.relaxI (fun a b => (Up.relaxK h n a b).2) n 6)

end Go.Proofs.Ytblgapcpkeapaaa.Cs

namespace Go.Proofs.Ytblgapcpkeapaaa.Cs

/-- a constraint: U, Rel, V -/
abbrev Cn := Int × Int × Int
def node (n : Int) : Nat := (n + 1).toNat
def cOk (c : Cn) : Bool := decide (-1 ≤ c.1) && decide (c.1 < 5) && decide (-1 ≤ c.2.2) && decide (c.2.2 < 5) && decide (0 ≤ c.2.1) && decide (c.2.1 ≤ 2)
def base : Tb := fun i j => if i = j ∨ i = 0 then 0 else -1
def add1 (d : Tb) (c : Cn) : Tb := put d (node c.1) (node c.2.2) (max (d (node c.1) (node c.2.2)) (if c.2.1 = 1 then 1 else 0))
def addC (d : Tb) (c : Cn) : Tb := if c.2.1 = 2 then put (add1 d c) (node c.2.2) (node c.1) (max (add1 d c (node c.2.2) (node c.1)) 0) else add1 d c
def start (l : List Cn) : Tb := l.foldl addC base
/-- the table of a list -/
def tab (l : List Cn) : Tb := relaxK 6 (start l)
/-- no way goes round and grows -/
def flat (l : List Cn) : Bool := (List.range 6).all fun i => decide (tab l i i ≤ 0)
end Go.Proofs.Ytblgapcpkeapaaa.Cs

namespace Go.Proofs.Ytblgapcpkeapaaa.Cs

def ok (l : List Cn) : Prop := ∀ c ∈ l, cOk c = true
section
variable {l : List Cn} (hf : flat l = true)
include hf
end
/-- values in which node i is N higher than it must be, and all that must follow it -/
def lifted (l : List Cn) (i : Nat) (N : Int) : Nat → Int := fun x => if 0 ≤ tab l i x then max (tab l 0 x) (N + tab l i x) else tab l 0 x
end Go.Proofs.Ytblgapcpkeapaaa.Cs

namespace Go.Proofs.Ytblgapcpkeapaaa.Cs

/-- the constraints that are not gone, the first of them number k -/
def skipFrom : Nat → List Cn → (Nat → Bool) → List Cn
  | _, [], _ => []
  | k, c :: r, g => if g k = true then skipFrom (k + 1) r g else c :: skipFrom (k + 1) r g
def skip (l : List Cn) (g : Nat → Bool) : List Cn := skipFrom 0 l g
def mark (g : Nat → Bool) (i : Nat) (b : Bool) : Nat → Bool := fun x => if x = i then b else g x
section
variable {l : List Cn} (hok : ok l) (hf : flat l = true)
include hok hf
end
end Go.Proofs.Ytblgapcpkeapaaa.Cs

namespace Go.Proofs.Ytblgapcpkeapaaa
open Go.RowKit

/-- a node: Op, N, A, B -/
abbrev Nd := Int × Int × Int × Int
abbrev nd0 : Nd := (0, 0, 0, 0)
/-- the cells of a node -/
abbrev Nd.vals (t : Nd) : Array Value := #[.int .i64 t.1, .int .i64 t.2.1, .int .i64 t.2.2.1, .int .i64 t.2.2.2]
/-- the slice value '.slice A n c' reads as the nodes l; its cells lie below block B -/
def NodR (w : World) (B : Nat) (A : Option Addr) (n : Nat) (l : List Nd) : Prop :=
  l.length = n ∧ (0 < n → ∃ b off, A = some ⟨b, off, none⟩ ∧ b < B ∧ ∀ k, k < n →
    w.cell? ⟨b, off + k * 4, none⟩ = some (.int .i64 (l.getD k nd0).1) ∧ w.cell? ⟨b, off + k * 4 + 1, none⟩ = some (.int .i64 (l.getD k nd0).2.1) ∧ w.cell? ⟨b, off + k * 4 + 2, none⟩ = some (.int .i64 (l.getD k nd0).2.2.1) ∧ w.cell? ⟨b, off + k * 4 + 3, none⟩ = some (.int .i64 (l.getD k nd0).2.2.2))
section
variable {w w' : World} {B B' n : Nat} {A : Option Addr}
theorem NodR.keep {l : List Nd} (h : NodR w B A n l) (hk : ∀ p : Addr, p.block < B → w'.cell? p = w.cell? p) : NodR w' B A n l :=
  ⟨h.1, fun hn => by
    obtain ⟨b, off, e, hb, hc⟩ := h.2 hn
    exact ⟨b, off, e, hb, fun k hk' => by rw [hk _ (by exact hb), hk _ (by exact hb), hk _ (by exact hb), hk _ (by exact hb)]; exact hc k hk'⟩⟩
theorem NodR.below {l : List Nd} (h : NodR w B A n l) (hb : Below B w w') : NodR w' B A n l := h.keep fun _ hp => hb.cell hp
theorem NodR.more {l : List Nd} (h : NodR w B A n l) (hB : B ≤ B') : NodR w B' A n l :=
  ⟨h.1, fun hn => by
    obtain ⟨b, off, e, hb, hc⟩ := h.2 hn
    exact ⟨b, off, e, by omega, hc⟩⟩
end
/-- the cells of a list of nodes -/
def nodCells (l : List Nd) : List Value := l.flatMap fun t => [.int .i64 t.1, .int .i64 t.2.1, .int .i64 t.2.2.1, .int .i64 t.2.2.2]
theorem nodCells_cons (t : Nd) (l : List Nd) : nodCells (t :: l) = .int .i64 t.1 :: .int .i64 t.2.1 :: .int .i64 t.2.2.1 :: .int .i64 t.2.2.2 :: nodCells l := rfl
theorem nodCells_len (l : List Nd) : (nodCells l).length = l.length * 4 := by
  induction l with
  | nil => rfl
  | cons t r ih => rw [nodCells_cons]; simp [ih]; omega
theorem nodCells_append (a b : List Nd) : nodCells (a ++ b) = nodCells a ++ nodCells b := by simp [nodCells]
theorem nodCells_one (l : List Nd) : ∀ u ∈ nodCells l, u.oneCell' = true := by
  intro u hu
  simp only [nodCells, List.mem_flatMap] at hu
  obtain ⟨t, _, ht⟩ := hu
  simp at ht
  rcases ht with rfl | rfl | rfl | rfl <;> rfl
theorem nodCells_at (l : List Nd) (k : Nat) (hk : k < l.length) : (nodCells l)[k * 4]? = some (.int .i64 (l.getD k nd0).1) ∧ (nodCells l)[k * 4 + 1]? = some (.int .i64 (l.getD k nd0).2.1) ∧ (nodCells l)[k * 4 + 2]? = some (.int .i64 (l.getD k nd0).2.2.1) ∧ (nodCells l)[k * 4 + 3]? = some (.int .i64 (l.getD k nd0).2.2.2) := by
  induction l generalizing k with
  | nil => simp at hk
  | cons t r ih =>
    rw [nodCells_cons]
    cases k with
    | zero => exact ⟨rfl, rfl, rfl, rfl⟩
    | succ k =>
      have h := ih k (by simpa using hk)
      rw [show (k + 1) * 4 = k * 4 + 1 + 1 + 1 + 1 by omega]
      exact h
/-- a row of the call's own, of nodes -/
abbrev OwnN (w : World) (base : Nat) (A : Option Addr) (n c : Nat) (l : List Nd) : Prop := w.ownsRow base 58 4 (.slice A n c) n (nodCells l)
theorem OwnN.reads {w : World} {base : Nat} {A : Option Addr} {n c : Nat} {l : List Nd} (h : OwnN w base A n c l) : NodR w w.heap.size A n l := by
  have hl : l.length = n := by have := h.1; rw [nodCells_len] at this; omega
  refine ⟨hl, fun hn => ?_⟩
  rcases h.2 with ⟨_, h0⟩ | ⟨g, cap, cur, hv, hb, hgg, h1, h2, h3, h4⟩
  · omega
  · injection hv with e1 e2 e3
    subst e1
    refine ⟨g, 0, rfl, (Array.getElem?_eq_some_iff.1 hgg).1, fun k hk => ?_⟩
    have hat := nodCells_at l k (by omega)
    have c1 := h.cells (g := g) rfl (k * 4) _ hat.1
    have c2 := h.cells (g := g) rfl (k * 4 + 1) _ hat.2.1
    have c3 := h.cells (g := g) rfl (k * 4 + 2) _ hat.2.2.1
    have c4 := h.cells (g := g) rfl (k * 4 + 3) _ hat.2.2.2
    rw [own_adds] at c1 c2 c3 c4
    rw [Nat.zero_add]
    exact ⟨c1, c2, c3, c4⟩
theorem info_nod : (Try.prog.info? 58).map (fun i => (i.zero, i.size, i.bytes)) = some (some (.agg #[.int .i64 0, .int .i64 0, .int .i64 0, .int .i64 0]), 4, 32) := by kernel_rfl
end Go.Proofs.Ytblgapcpkeapaaa

namespace Go.Proofs.Ytblgapcpkeapaaa
open Go.RowKit Go.Maps
set_option maxRecDepth 100000

theorem laidNd : laidOutB Try.prog = true := by kernel_rfl
theorem rowNd : (58 : TypeId) < Try.prog.types.size := of_decide_eq_true (by kernel_rfl)
theorem wideNd : (match Try.prog.underlying 58 with | some (.array _ _) | some (.struct _) => true | _ => false) = true := by rw [Try.underlying58]
theorem lawNd : Keyed Try.prog 58 := Keyed.of_law (deep_law_laid laidNd (m := 2) (by omega) rowNd (by kernel_rfl) wideNd)
theorem zeroNd (w : World) : (zeroValue 3).run Try.prog w = .ok (.int .i64 0) w := by kernel_rfl

def ndWf (x : Nd) : Prop := (Lit.int .i64 x.1).wf = true ∧ (Lit.int .i64 x.2.1).wf = true ∧ (Lit.int .i64 x.2.2.1).wf = true ∧ (Lit.int .i64 x.2.2.2).wf = true
theorem cellsIntNd : Try.prog.cellsOf 3 = 1 := by kernel_rfl
theorem cellsNdK : Try.prog.cellsOf 58 = 4 := by kernel_rfl
theorem nk_some (x : Nd) (h : ndWf x) : ∃ l, keyOf Try.prog 58 (.agg x.vals) = some l := by
  obtain ⟨m, hm⟩ : ∃ m, Try.prog.types.size = m + 1 := ⟨Try.prog.types.size - 1, by have h : (0 : Nat) < Try.prog.types.size := Nat.lt_of_le_of_lt (Nat.zero_le _) rowNd; omega⟩
  have h1 : Try.prog.keyType 58 = true := by kernel_rfl
  have h2 : (Value.agg x.vals).formed Try.prog 58 = true := by simp [Value.formed, Try.underlying58, cellsNdK]
  have h3 : ∀ v : Int, (Lit.int .i64 v).wf = true → Try.prog.keyLits (m + 1) 3 [.int .i64 v] = some [.int .i64 v] := by
    intro v hv
    simp [Program.keyLits, Try.underlying3, hv]
  have h4 : ∃ l, Try.prog.keyLits (m + 1 + 1) 58 (Value.agg x.vals).cells.toList = some l := by
    refine ⟨[.int .i64 x.1, .int .i64 x.2.1, .int .i64 x.2.2.1, .int .i64 x.2.2.2], ?_⟩
    unfold Program.keyLits
    simp only [Try.underlying58]
    simp [cellsNdK, cellsIntNd, Value.cells, h3 _ h.1, h3 _ h.2.1, h3 _ h.2.2.1, h3 _ h.2.2.2]
  obtain ⟨l, hl⟩ := h4
  refine ⟨.string (keyBytes l), ?_⟩
  unfold keyOf
  rw [Try.underlying58, hm]
  simp only [h1, h2, Bool.and_self, if_true, hl, Option.map_some]
/-- what a node reads as where it is a key -/
noncomputable def nk (x : Nd) : Lit := (keyOf Try.prog 58 (.agg x.vals)).getD (.bool false)
theorem nk_key {x : Nd} (h : ndWf x) : keyOf Try.prog 58 (.agg x.vals) = some (nk x) := by
  obtain ⟨l, hl⟩ := nk_some x h
  unfold nk
  rw [hl]
  rfl
theorem nk_isKey {x : Nd} (h : ndWf x) : WideAt.IsKeyLit (nk x) := lawNd.key (nk_key h)
theorem nk_ne {x y : Nd} (hx : ndWf x) (hy : ndWf y) (h : x ≠ y) : nk x ≠ nk y := by
  intro e
  have h1 := nk_key hx
  rw [e] at h1
  have h2 := lawNd.inj h1 (nk_key hy)
  apply h
  obtain ⟨a, b, c, d⟩ := x
  obtain ⟨p, q, r, s⟩ := y
  simp at h2
  obtain ⟨rfl, rfl, rfl, rfl⟩ := h2
  rfl

/-- the map D holds just the nodes of l, each with its index -/
def GN (D : DataW Unit) (l : List Nd) : Prop := ∀ x, ndWf x → Maps.has D (nk x) = decide (x ∈ l) ∧ (x ∈ l → ∀ z, D.atKey (nk x) z = .lit (.int .i64 (l.idxOf x)))
theorem gn_start : GN (.map []) [] := fun x _ => ⟨by simp [Maps.has], fun h => by cases h⟩
theorem gn_step {D : DataW Unit} {l : List Nd} {x : Nd} (h : GN D l) (hD : IsMap D) (hx : ndWf x) (hn : x ∉ l) : GN (D.put (nk x) (.lit (.int .i64 (l.length : Int)))) (l ++ [x]) := by
  intro y hy
  by_cases e : y = x
  · subst e
    refine ⟨?_, fun _ z => ?_⟩
    · rw [has_put_same hD (nk_isKey hy)]; simp
    · rw [atKey_put_same hD (nk_isKey hy), List.idxOf_append, if_neg hn]
      simp
  · obtain ⟨h1, h2⟩ := h y hy
    refine ⟨?_, fun hu z => ?_⟩
    · rw [has_put_other (nk_ne hy hx e), h1]; simp [e]
    · have hm : y ∈ l := by simpa [e] using hu
      rw [atKey_put_other (nk_ne hy hx e), h2 hm z, List.idxOf_append, if_pos hm]
end Go.Proofs.Ytblgapcpkeapaaa

namespace Go.Proofs.Ytblgapcpkeapaaa
open Go.RowKit

set_option maxHeartbeats 400000 in
theorem szNodeS_any (A : Option Addr) (n c : Nat) (left : Int) (w : World) (h0 : 0 ≤ left) (h1 : left ≤ 1048576) (hn : (n : Int) ≤ 9223372036854775807) :
    Calls Try.prog 9 #[.slice A n c, .int .i64 left] w fun e w' => e = .returned (.int .i64 (if left < n then -1 else left - n)) ∧ w = w' := by
  go_enter Try.func9, Try.ntmps9
  go_wp2
  all_goals go_ret
  · exact ⟨rfl, rfl⟩
  · exact ⟨rfl, rfl⟩

set_option maxHeartbeats 400000 in
theorem toNode_any (U R V X : Int) (w : World) :
    Calls Try.prog 38 #[.agg #[.int .i64 U, .int .i64 R, .int .i64 V, .int .i64 X]] w fun e w' => e = .returned (.agg #[.int .i64 U, .int .i64 R, .int .i64 V, .int .i64 X]) ∧ Below w.heap.size w w' := by
  go_enter Try.func38, Try.ntmps38
  go_wp2
  exact bodyPost_ret (v := .agg #[.int .i64 U, .int .i64 R, .int .i64 V, .int .i64 X]) (by simp [results, Try.results38, go_sem]) rfl ⟨rfl, ((((Below.refl _ _).alloc (Nat.le_refl _) _).alloc (by simp) _).alloc (by simp; omega) _)⟩

/-- block g is a row of just n constraints, those of l -/
def NodOwn (w : World) (g n : Nat) (l : List Nd) : Prop :=
  l.length = n ∧ ∃ cs, Blk w g 58 cs ∧ cs.size = n * 4 ∧ ∀ k, k < n → cs[k * 4]? = some (.int .i64 (l.getD k nd0).1) ∧ cs[k * 4 + 1]? = some (.int .i64 (l.getD k nd0).2.1) ∧ cs[k * 4 + 2]? = some (.int .i64 (l.getD k nd0).2.2.1) ∧ cs[k * 4 + 3]? = some (.int .i64 (l.getD k nd0).2.2.2)
theorem NodOwn.lt {w : World} {g n : Nat} {l : List Nd} (h : NodOwn w g n l) : g + 1 ≤ w.heap.size := by obtain ⟨_, cs, hblk, _⟩ := h; exact hblk.lt
theorem NodOwn.reads {w : World} {g n : Nat} {l : List Nd} (h : NodOwn w g n l) : NodR w (g + 1) (some ⟨g, 0, none⟩) n l := by
  obtain ⟨hl, cs, hb, hs, hc⟩ := h
  refine ⟨hl, fun _ => ⟨g, 0, rfl, by omega, fun k hk => ?_⟩⟩
  rw [hb.cell, hb.cell, hb.cell, hb.cell, Nat.zero_add]
  exact hc k hk
theorem NodOwn.below {w w' : World} {g n B : Nat} {l : List Nd} (h : NodOwn w g n l) (hb : Below B w w') (hg : g < B) : NodOwn w' g n l := by
  obtain ⟨hl, cs, hblk, rest⟩ := h
  exact ⟨hl, cs, hblk.below hb hg, rest⟩
theorem NodOwn.owns {w : World} {g n : Nat} {l : List Nd} (h : NodOwn w g n l) (hn : n ≤ 1048576) : OwnN w g (some ⟨g, 0, none⟩) n n l := by
  obtain ⟨hl, cs, hblk, hs, hc⟩ := h
  refine ⟨by rw [nodCells_len, hl], .inr ⟨g, n, cs, rfl, Nat.le_refl _, hblk, Nat.le_refl _, by unfold maxLen; omega, hs, ?_⟩⟩
  rw [← hs, List.take_of_length_le (by simp)]
  apply List.ext_getElem?
  intro i
  by_cases hi : i < n * 4
  · obtain ⟨k, hk⟩ : ∃ k, i = k * 4 ∨ i = k * 4 + 1 ∨ i = k * 4 + 2 ∨ i = k * 4 + 3 := ⟨i / 4, by omega⟩
    have h1 := nodCells_at l k (by omega)
    have h2 := hc k (by omega)
    rcases hk with rfl | rfl | rfl | rfl
    · rw [h1.1, Array.getElem?_toList]; exact h2.1
    · rw [h1.2.1, Array.getElem?_toList]; exact h2.2.1
    · rw [h1.2.2.1, Array.getElem?_toList]; exact h2.2.2.1
    · rw [h1.2.2.2, Array.getElem?_toList]; exact h2.2.2.2
  · rw [List.getElem?_eq_none (by simp; omega), List.getElem?_eq_none (by rw [nodCells_len]; omega)]

/-- the row of constraints that is being filled: the first k of them are there -/
def FillN (w : World) (g n k : Nat) (l : List Nd) (wr : World) : Prop :=
  Below w.heap.size w wr ∧ ∃ cs, Blk wr g 58 cs ∧ cs.size = n * 4 ∧ ∀ j, j < k → cs[j * 4]? = some (.int .i64 (l.getD j nd0).1) ∧ cs[j * 4 + 1]? = some (.int .i64 (l.getD j nd0).2.1) ∧ cs[j * 4 + 2]? = some (.int .i64 (l.getD j nd0).2.2.1) ∧ cs[j * 4 + 3]? = some (.int .i64 (l.getD j nd0).2.2.2)
theorem fillN_step {w wr w1 : World} {n k : Nat} {l : List Nd} {a b d x : Int} (h : FillN w w.heap.size n k l wr) (hb : Below wr.heap.size wr w1) (hk : k < n) (ht : l.getD k nd0 = (a, b, d, x)) :
    FillN w w.heap.size n (k + 1) l ((((w1.setCell ⟨w.heap.size, k * 4, none⟩ (.int .i64 a)).setCell ⟨w.heap.size, k * 4 + 1, none⟩ (.int .i64 b)).setCell ⟨w.heap.size, k * 4 + 2, none⟩ (.int .i64 d)).setCell ⟨w.heap.size, k * 4 + 3, none⟩ (.int .i64 x)) := by
  obtain ⟨hbel, cs, hblk, hs, hc⟩ := h
  have hblk1 := hblk.below hb hblk.lt
  refine ⟨((((hbel.trans (hb.mono hbel.size)).setCell (p := ⟨w.heap.size, k * 4, none⟩) (Nat.le_refl _) _).setCell (p := ⟨w.heap.size, k * 4 + 1, none⟩) (Nat.le_refl _) _).setCell (p := ⟨w.heap.size, k * 4 + 2, none⟩) (Nat.le_refl _) _).setCell (p := ⟨w.heap.size, k * 4 + 3, none⟩) (Nat.le_refl _) _, _, (((hblk1.put _ _).put _ _).put _ _).put _ _, by simp [hs], ?_⟩
  intro j hj
  by_cases e : j = k
  · subst e
    rw [ht]
    refine ⟨?_, ?_, ?_, ?_⟩
    · rw [Array.getElem?_setIfInBounds_ne (by omega), Array.getElem?_setIfInBounds_ne (by omega), Array.getElem?_setIfInBounds_ne (by omega), Array.getElem?_setIfInBounds_self_of_lt (by omega)]
    · rw [Array.getElem?_setIfInBounds_ne (by omega), Array.getElem?_setIfInBounds_ne (by omega), Array.getElem?_setIfInBounds_self_of_lt (by simp; omega)]
    · rw [Array.getElem?_setIfInBounds_ne (by omega), Array.getElem?_setIfInBounds_self_of_lt (by simp; omega)]
    · rw [Array.getElem?_setIfInBounds_self_of_lt (by simp; omega)]
  · obtain ⟨x, y, z, u⟩ := hc j (by omega)
    refine ⟨?_, ?_, ?_, ?_⟩
    · rw [Array.getElem?_setIfInBounds_ne (by omega), Array.getElem?_setIfInBounds_ne (by omega), Array.getElem?_setIfInBounds_ne (by omega), Array.getElem?_setIfInBounds_ne (by omega)]; exact x
    · rw [Array.getElem?_setIfInBounds_ne (by omega), Array.getElem?_setIfInBounds_ne (by omega), Array.getElem?_setIfInBounds_ne (by omega), Array.getElem?_setIfInBounds_ne (by omega)]; exact y
    · rw [Array.getElem?_setIfInBounds_ne (by omega), Array.getElem?_setIfInBounds_ne (by omega), Array.getElem?_setIfInBounds_ne (by omega), Array.getElem?_setIfInBounds_ne (by omega)]; exact z
    · rw [Array.getElem?_setIfInBounds_ne (by omega), Array.getElem?_setIfInBounds_ne (by omega), Array.getElem?_setIfInBounds_ne (by omega), Array.getElem?_setIfInBounds_ne (by omega)]; exact u

set_option maxHeartbeats 800000 in
theorem toNodeS_any (w : World) (B : Nat) (A : Option Addr) (n c : Nat) (l : List Nd) (hB : B ≤ w.heap.size) (hl : NodR w B A n l) (hn : n ≤ 1048576) :
    Calls Try.prog 11 #[.slice A n c] w fun e w' => e = .returned (.slice (some ⟨w.heap.size, 0, none⟩) n n) ∧ Below w.heap.size w w' ∧ NodOwn w' w.heap.size n l := by
  obtain ⟨i0, hi, hz0, hz1, hz2⟩ := info_parts info_nod
  have hmk : ∀ wx, (Instr.makeSlice 25 (.int .i64 (n : Int)) (.int .i64 (n : Int))).run Try.prog wx = .ok (.slice (some ⟨wx.heap.size, 0, none⟩) n n) (wx.alloc (.cells (madeCells (Value.agg #[.int .i64 0, .int .i64 0, .int .i64 0, .int .i64 0]).cells (n * 4)) 58)) := by
    intro wx
    have hr := run_make (P := Try.prog) wx 25 58 i0 _ Try.underlying25 hi hz0 .i64 .i64 n n (by omega) (by omega) (by rw [hz2]; omega) (by omega)
    simp only [Int.toNat_natCast, hz1] at hr
    exact hr
  have hstart : FillN w w.heap.size n 0 l (w.alloc (.cells (madeCells (Value.agg #[.int .i64 0, .int .i64 0, .int .i64 0, .int .i64 0]).cells (n * 4)) 58)) :=
    ⟨(Below.refl _ _).alloc (Nat.le_refl _) _, _, Blk.made _ _ _, by simp [madeCells], by intro j hj; omega⟩
  have HS := Lib.hid hstart
  clear hstart hi hz0 hz1 hz2
  go_enter Try.func11, Try.ntmps11
  go_wp2
  go_loopw [4] (fun i wr => ∃ k : Nat, k ≤ n ∧ i = .int .i64 k ∧ FillN w w.heap.size n k l wr) (fun i _ => n - (intOf i).toNat)
  case atStart => exact ⟨0, Nat.zero_le _, rfl, HS.out⟩
  case round =>
    obtain ⟨k, hk, rfl, hF⟩ := hrel
    by_cases hlt : k < n
    · obtain ⟨b, off, rfl, hb, hc⟩ := hl.2 (by omega)
      obtain ⟨c1, c2, c3, c4⟩ := hc k hlt
      obtain ⟨t, ht⟩ : ∃ t, l.getD k nd0 = t := ⟨_, rfl⟩
      rw [ht] at c1 c2 c3 c4
      obtain ⟨U, R, V, X⟩ := t
      have hbel := hF.1
      have k1 := (hbel.cell (p := ⟨b, off + k * 4, none⟩) (by show b < _; omega)).trans c1
      have k2 := (hbel.cell (p := ⟨b, off + k * 4 + 1, none⟩) (by show b < _; omega)).trans c2
      have k3 := (hbel.cell (p := ⟨b, off + k * 4 + 2, none⟩) (by show b < _; omega)).trans c3
      have k4 := (hbel.cell (p := ⟨b, off + k * 4 + 3, none⟩) (by show b < _; omega)).trans c4
      have HT := Lib.hid ht
      have HF := Lib.hid hF
      have hszr := hbel.size
      clear c1 c2 c3 c4 hc ht
      go_wp2_with fail
      refine (toNode_any _ _ _ _ _).mono ?_
      rintro e w1 ⟨rfl, hb1⟩
      obtain ⟨_, cs, hblk, hs, _⟩ := HF.out
      have hblk1 := hblk.below hb1 hblk.lt
      have hlt1 := hblk1.lt
      have f1 := hblk1.thawed (k * 4)
      have f2 := hblk1.thawed (k * 4 + 1)
      have f3 := hblk1.thawed (k * 4 + 2)
      have f4 := hblk1.thawed (k * 4 + 3)
      obtain ⟨v1, e1⟩ : ∃ v1, w1.cell? ⟨w.heap.size, k * 4, none⟩ = some v1 := ⟨_, (hblk1.cell _).trans (Array.getElem?_eq_getElem (by omega))⟩
      obtain ⟨v2, e2⟩ : ∃ v2, w1.cell? ⟨w.heap.size, k * 4 + 1, none⟩ = some v2 := ⟨_, (hblk1.cell _).trans (Array.getElem?_eq_getElem (by omega))⟩
      obtain ⟨v3, e3⟩ : ∃ v3, w1.cell? ⟨w.heap.size, k * 4 + 2, none⟩ = some v3 := ⟨_, (hblk1.cell _).trans (Array.getElem?_eq_getElem (by omega))⟩
      obtain ⟨v4, e4⟩ : ∃ v4, w1.cell? ⟨w.heap.size, k * 4 + 3, none⟩ = some v4 := ⟨_, (hblk1.cell _).trans (Array.getElem?_eq_getElem (by omega))⟩
      have HN := Lib.hid (fillN_step HF.out hb1 hlt HT.out)
      clear hblk hblk1 hs hF
      go_wp2
      go_roundw
      case rel => exact ⟨k + 1, by omega, by go_num, HN.out⟩
      case measure => simp [intOf]; omega
    · obtain rfl : k = n := by omega
      obtain ⟨hbel, hcs⟩ := hF
      have HC := Lib.hid hcs
      clear hcs
      go_wp2
      go_ret
      exact ⟨rfl, hbel, hl.1, HC.out⟩

set_option maxHeartbeats 800000 in
theorem eqNode_any (a b c d p q r s : Int) (w : World) :
    Calls Try.prog 40 #[.agg #[.int .i64 a, .int .i64 b, .int .i64 c, .int .i64 d], .agg #[.int .i64 p, .int .i64 q, .int .i64 r, .int .i64 s]] w fun e w' => e = .returned (.bool (decide ((a, b, c, d) = (p, q, r, s)))) ∧ Below w.heap.size w w' := by
  have hb : Below w.heap.size w ((w.alloc (.cells #[.int .i64 a, .int .i64 b, .int .i64 c, .int .i64 d] 58)).alloc (.cells #[.int .i64 p, .int .i64 q, .int .i64 r, .int .i64 s] 58)) := ((Below.refl _ _).alloc (Nat.le_refl _) _).alloc (by simp) _
  have HB := Lib.hid hb
  clear hb
  by_cases h1 : a = p
  · subst h1
    by_cases h2 : b = q
    · subst h2
      by_cases h3 : c = r
      · subst h3
        by_cases h4 : d = s
        · subst h4
          go_enter Try.func40, Try.ntmps40
          go_wp2
          go_ret
          exact ⟨ret_bool (by simp), HB.out⟩
        · have e4 : (d != s) = true := by simpa using h4
          have HD : Hid (decide ((a, b, c, d) = (a, b, c, s)) = false) := by show _ = _; simp [h4]
          clear h4
          go_enter Try.func40, Try.ntmps40
          go_wp2
          go_ret
          exact ⟨by rw [HD.out]; rfl, HB.out⟩
      · have e3 : (c != r) = true := by simpa using h3
        have HD : Hid (decide ((a, b, c, d) = (a, b, r, s)) = false) := by show _ = _; simp [h3]
        clear h3
        go_enter Try.func40, Try.ntmps40
        go_wp2
        go_ret
        exact ⟨by rw [HD.out]; rfl, HB.out⟩
    · have e2 : (b != q) = true := by simpa using h2
      have HD : Hid (decide ((a, b, c, d) = (a, q, r, s)) = false) := by show _ = _; simp [h2]
      clear h2
      go_enter Try.func40, Try.ntmps40
      go_wp2
      go_ret
      exact ⟨by rw [HD.out]; rfl, HB.out⟩
  · have e1 : (a != p) = true := by simpa using h1
    have HD : Hid (decide ((a, b, c, d) = (p, q, r, s)) = false) := by show _ = _; simp [h1]
    clear h1
    go_enter Try.func40, Try.ntmps40
    go_wp2
    go_ret
    exact ⟨by rw [HD.out]; rfl, HB.out⟩

set_option maxRecDepth 100000 in
set_option maxHeartbeats 1000000 in
theorem eqNodeS_any (w : World) (B : Nat) (A1 A2 : Option Addr) (n1 n2 c1 c2 : Nat) (l m : List Nd) (hB : B ≤ w.heap.size) (hl : NodR w B A1 n1 l) (hm : NodR w B A2 n2 m)
    (hn1 : (n1 : Int) ≤ 140737488355328) (hn2 : (n2 : Int) ≤ 140737488355328) :
    Calls Try.prog 13 #[.slice A1 n1 c1, .slice A2 n2 c2] w fun e w' => e = .returned (.bool (decide (l = m))) ∧ Below w.heap.size w w' := by
  by_cases hne : n1 = n2
  · subst hne
    have en : ((n1 : Int) != (n1 : Int)) = false := by simp
    go_enter Try.func13, Try.ntmps13
    go_wp2
    go_loopw [5] (fun i wr => ∃ k : Nat, k ≤ n1 ∧ i = .int .i64 k ∧ Agree nd0 k l m ∧ Below w.heap.size w wr) (fun i _ => n1 - (intOf i).toNat)
    case atStart => exact ⟨0, Nat.zero_le _, rfl, (fun j hj => absurd hj (by omega)), Below.refl _ _⟩
    case round =>
      obtain ⟨k, hk, rfl, hag, hbel⟩ := hrel
      have HG := Lib.hid hag
      clear hag
      by_cases hlt : k < n1
      · obtain ⟨b, off, rfl, hb, hc⟩ := hl.2 (by omega)
        obtain ⟨x1, x2, x3, x4⟩ := hc k hlt
        obtain ⟨b', off', rfl, hb', hc'⟩ := hm.2 (by omega)
        obtain ⟨y1, y2, y3, y4⟩ := hc' k hlt
        have HL := Lib.hid hl
        have HM := Lib.hid hm
        obtain ⟨t, ht⟩ : ∃ t, l.getD k nd0 = t := ⟨_, rfl⟩
        obtain ⟨u, hu⟩ : ∃ u, m.getD k nd0 = u := ⟨_, rfl⟩
        rw [ht] at x1 x2 x3 x4
        rw [hu] at y1 y2 y3 y4
        obtain ⟨p, q, r, s⟩ := t
        obtain ⟨p', q', r', s'⟩ := u
        have HT := Lib.hid ht
        have HU := Lib.hid hu
        have k1 := (hbel.cell (p := ⟨b, off + k * 4, none⟩) (by show b < _; omega)).trans x1
        have k2 := (hbel.cell (p := ⟨b, off + k * 4 + 1, none⟩) (by show b < _; omega)).trans x2
        have k3 := (hbel.cell (p := ⟨b, off + k * 4 + 2, none⟩) (by show b < _; omega)).trans x3
        have k4 := (hbel.cell (p := ⟨b', off' + k * 4, none⟩) (by show b' < _; omega)).trans y1
        have k5 := (hbel.cell (p := ⟨b', off' + k * 4 + 1, none⟩) (by show b' < _; omega)).trans y2
        have k6 := (hbel.cell (p := ⟨b', off' + k * 4 + 2, none⟩) (by show b' < _; omega)).trans y3
        have k7 := (hbel.cell (p := ⟨b, off + k * 4 + 3, none⟩) (by show b < _; omega)).trans x4
        have k8 := (hbel.cell (p := ⟨b', off' + k * 4 + 3, none⟩) (by show b' < _; omega)).trans y4
        clear x1 x2 x3 x4 y1 y2 y3 y4 hc hc' ht hu hl hm
        go_wp2_with fail
        refine region_tail 8 (by kernel_rfl) (by kernel_rfl) ?_
        simp only [List.take_succ_cons, List.take_zero, List.drop_succ_cons, List.drop_zero]
        repeat still_step
        refine wpStill_nil ?_
        go_wp2_with fail
        refine (eqNode_any p q r s p' q' r' s' _).mono ?_
        rintro e w1 ⟨rfl, hb1⟩
        have HB := Lib.hid (hbel.drew.trans (hb1.mono hbel.size))
        clear hb1
        by_cases heq : (p, q, r, s) = (p', q', r', s')
        · have HA : Hid (Agree nd0 (k + 1) l m) := agree_step HG.out (by rw [HT.out, HU.out, heq])
          rw [decide_eq_true heq]
          clear heq
          go_wp2
          go_roundw
          case rel => exact ⟨k + 1, by omega, by go_num, HA.out, HB.out⟩
          case measure => simp [intOf]; omega
        · have HF : Hid (decide (l = m) = false) := by
            show _ = _
            rw [decide_eq_false_iff_not]
            intro h
            apply heq
            rw [← HT.out, ← HU.out, h]
          rw [decide_eq_false heq]
          clear heq
          go_wp2
          go_ret
          exact ⟨by rw [HF.out]; rfl, HB.out⟩
      · obtain rfl : k = n1 := by omega
        have HF : Hid (decide (l = m) = true) := by
          show _ = _
          rw [decide_eq_true_eq]
          exact agree_all hl.1 hm.1 HG.out
        clear hl hm
        go_wp2
        go_ret
        exact ⟨by rw [HF.out]; rfl, hbel⟩
  · have HF : Hid (decide (l = m) = false) := by
      show _ = _
      rw [decide_eq_false_iff_not]
      intro h
      apply hne
      rw [← hl.1, ← hm.1, h]
    have en : ((n1 : Int) != (n2 : Int)) = true := by simp; omega
    clear hl hm hne
    go_enter Try.func13, Try.ntmps13
    go_wp2
    go_ret
    exact ⟨by rw [HF.out]; rfl, Below.refl _ _⟩
end Go.Proofs.Ytblgapcpkeapaaa
