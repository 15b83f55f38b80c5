/- Words for memory: a slice that reads as a list of pairs or of numbers, a block that is known whole; an env. -/
/- The laws' own helpers on slices of tokens: sizes, copies, comparison. -/
/- The laws' comparison of two slices of tokens. -/
/- The reference model's LevelEval; the laws' helpers on slices of numbers. -/
/- Slices that a call owns: read as lists, kept over other steps; the laws' marks upon them. -/
import Derived.Test.YtblgapcpkeapaaaRows
import Derived.WalkKit
import Derived.WalkLawsBesides
import Derived.WalkSpells
import Derived.Deep.QuietTactic
import Derived.BigQuiet
import Derived.StillTailTactics
import Derived.Lib.Hide
import Derived.Recover

/- Plain functions on levels as lists of pairs of numbers: validity by heights, evaluation on a stack (its top first), and how the two hang together. Nothing of the program is imported. -/
namespace Go.Proofs.Ytblgapcpkeapaaa.Lv

abbrev Tk := Int × Int

/-- one token alone is right -/
def tkOk (t : Tk) : Bool := decide (0 ≤ t.1) && decide (t.1 ≤ 4) && (decide (t.1 = 4) || decide (t.2 = 0)) && decide (0 ≤ t.2) && decide (t.2 < 5)

def takes (op : Int) : Int := if op = 1 then 1 else if op = 2 ∨ op = 3 then 2 else 0

/-- the height behind the tokens, if none of them fails -/
def hts : List Tk → Int → Option Int
  | [], n => some n
  | t :: r, n => if tkOk t = true ∧ takes t.1 ≤ n then hts r (n - takes t.1 + 1) else none

def levelOk (l : List Tk) : Bool := decide (1 ≤ l.length) && decide (l.length ≤ 24) && decide (hts l 0 = some 1)

/-- one token on a stack, its top first -/
def step (env : List Int) (t : Tk) (st : List Int) : Option (List Int) :=
  if tkOk t = true then
    if t.1 = 0 then some (0 :: st)
    else if t.1 = 4 then some (env.getD t.2.toNat 0 :: st)
    else if t.1 = 1 then
      match st with
      | a :: s => some ((a + 1) :: s)
      | [] => none
    else
      match st with
      | b :: a :: s => some ((if t.1 = 3 ∧ b = 0 then 0 else max a b) :: s)
      | _ => none
  else none

def run (env : List Int) : List Tk → List Int → Option (List Int)
  | [], st => some st
  | t :: r, st => (step env t st).bind (run env r)

/-- what LevelEval answers -/
def eval (env : List Int) (l : List Tk) : Option Int :=
  if levelOk l = true then
    match run env l [] with
    | some [v] => some v
    | _ => none
  else none

end Go.Proofs.Ytblgapcpkeapaaa.Lv

namespace Go.Proofs.Ytblgapcpkeapaaa
open Go.RowKit

/-- the slice value '.slice A n c' reads as the pairs l; its cells lie below block B -/
def TokR (w : World) (B : Nat) (A : Option Addr) (n : Nat) (l : List (Int × Int)) : Prop :=
  l.length = n ∧ (0 < n → ∃ b off, A = some ⟨b, off, none⟩ ∧ b < B ∧ ∀ k, k < n →
    w.cell? ⟨b, off + k * 2, none⟩ = some (.int .i64 (l.getD k (0, 0)).1) ∧ w.cell? ⟨b, off + k * 2 + 1, none⟩ = some (.int .i64 (l.getD k (0, 0)).2))

/-- the slice value '.slice A n c' reads as the numbers l; its cells lie below block B -/
def IntR (w : World) (B : Nat) (A : Option Addr) (n : Nat) (l : List Int) : Prop :=
  l.length = n ∧ (0 < n → ∃ b off, A = some ⟨b, off, none⟩ ∧ b < B ∧ ∀ k, k < n → w.cell? ⟨b, off + k, none⟩ = some (.int .i64 (l.getD k 0)))

section
variable {w w' : World} {B B' n : Nat} {A : Option Addr}
theorem TokR.keep {l : List (Int × Int)} (h : TokR w B A n l) (hk : ∀ p : Addr, p.block < B → w'.cell? p = w.cell? p) : TokR w' B A n l :=
  ⟨h.1, fun hn => by
    obtain ⟨b, off, e, hb, hc⟩ := h.2 hn
    exact ⟨b, off, e, hb, fun k hk' => by rw [hk _ (by exact hb), hk _ (by exact hb)]; exact hc k hk'⟩⟩
theorem TokR.below {l : List (Int × Int)} (h : TokR w B A n l) (hb : Below B w w') : TokR w' B A n l := h.keep fun _ hp => hb.cell hp
theorem TokR.more {l : List (Int × Int)} (h : TokR w B A n l) (hB : B ≤ B') : TokR w B' A n l :=
  ⟨h.1, fun hn => by
    obtain ⟨b, off, e, hb, hc⟩ := h.2 hn
    exact ⟨b, off, e, by omega, hc⟩⟩
theorem IntR.keep {l : List Int} (h : IntR w B A n l) (hk : ∀ p : Addr, p.block < B → w'.cell? p = w.cell? p) : IntR w' B A n l :=
  ⟨h.1, fun hn => by
    obtain ⟨b, off, e, hb, hc⟩ := h.2 hn
    exact ⟨b, off, e, hb, fun k hk' => by rw [hk _ (by exact hb)]; exact hc k hk'⟩⟩
theorem IntR.below {l : List Int} (h : IntR w B A n l) (hb : Below B w w') : IntR w' B A n l := h.keep fun _ hp => hb.cell hp
theorem IntR.more {l : List Int} (h : IntR w B A n l) (hB : B ≤ B') : IntR w B' A n l :=
  ⟨h.1, fun hn => by
    obtain ⟨b, off, e, hb, hc⟩ := h.2 hn
    exact ⟨b, off, e, by omega, hc⟩⟩
end

/-- block g is just the cells cs of element type t, none of them frozen -/
def Blk (w : World) (g : Nat) (t : TypeId) (cs : Array Value) : Prop := w.heap[g]? = some (.cells cs t (0, 0))

section
variable {w w' : World} {g : Nat} {t : TypeId} {cs : Array Value}
theorem Blk.lt (h : Blk w g t cs) : g < w.heap.size := (Array.getElem?_eq_some_iff.1 h).1
theorem Blk.cell (h : Blk w g t cs) (i : Nat) : w.cell? ⟨g, i, none⟩ = cs[i]? := cell_of_row w g i cs t (0, 0) h
theorem Blk.thawed (h : Blk w g t cs) (i : Nat) : w.frozen? ⟨g, i, none⟩ = false := by
  have h' : w.heap[g]? = some (.cells cs t (0, 0)) := h
  simp [World.frozen?, h']
theorem Blk.made (w : World) (t : TypeId) (cs : Array Value) : Blk (w.alloc (.cells cs t)) w.heap.size t cs := heap_alloc_new w _
theorem Blk.alloc (h : Blk w g t cs) (o : Obj) : Blk (w.alloc o) g t cs := (Below.heap_alloc w o g h.lt).trans h
theorem Blk.put (h : Blk w g t cs) (i : Nat) (u : Value) : Blk (w.setCell ⟨g, i, none⟩ u) g t (cs.setIfInBounds i u) := by
  have h' : w.heap[g]? = some (.cells cs t (0, 0)) := h
  show (w.setCell ⟨g, i, none⟩ u).heap[g]? = _
  simp [World.setCell, Array.getElem?_modify, h']
theorem Blk.other (h : Blk w g t cs) {p : Addr} (hp : g ≠ p.block) (u : Value) : Blk (w.setCell p u) g t cs := (Below.heap_setCell w p u g hp).trans h
theorem Blk.grown {row : Option Nat} (h : Blk w g t cs) (hb : w.grownBy w' row) (hg : some g ≠ row) : Blk w' g t cs := (hb.block g h.lt hg).trans h
theorem Blk.below {B : Nat} (h : Blk w g t cs) (hb : Below B w w') (hg : g < B) : Blk w' g t cs := (hb.block g hg).trans h
theorem Blk.apart {g' : Nat} {t' : TypeId} {cs' : Array Value} (h : Blk w g t cs) (h' : Blk w g' t' cs') (hne : t ≠ t') : g ≠ g' := by
  rintro rfl
  have e := Eq.trans (Eq.symm h) h'
  injection e with e
  injection e with _ e2
  exact hne e2
theorem own_apart {base : Nat} {e : TypeId} {size n : Nat} {v : Value} {xs : List Value} (h : w.ownsRow base e size v n xs) (hg : Blk w g t cs) (hne : e ≠ t) : v.ownBlock ≠ some g := by
  rcases h.2 with ⟨rfl, _⟩ | ⟨g', cap, cur, rfl, _, hh, _⟩
  · simp [Value.ownBlock]
  · intro he
    have hgg : g' = g := by simpa [Value.ownBlock] using he
    subst hgg
    exact Blk.apart (t := e) hh hg hne rfl
end

/-- a store into another block leaves an owned row as it is -/
theorem own_store {w : World} {base : Nat} {e : TypeId} {size n : Nat} {v : Value} {xs : List Value} (h : w.ownsRow base e size v n xs) {p : Addr} (hp : v.ownBlock ≠ some p.block) (u : Value) :
    (w.setCell p u).ownsRow base e size v n xs := by
  refine ⟨h.1, ?_⟩
  rcases h.2 with hn | ⟨g, cap, cur, rfl, hb, hgg, rest⟩
  · exact .inl hn
  · refine .inr ⟨g, cap, cur, rfl, hb, ?_, rest⟩
    rw [Below.heap_setCell w p u g (by intro he; subst he; exact hp rfl)]
    exact hgg

theorem info_int : (Try.prog.info? 3).map (fun i => (i.zero, i.size, i.bytes)) = some (some (.int .i64 0), 1, 8) := by kernel_rfl

/-- a region that draws, whose first n operations only read: the draw said by its name -/
theorem region_tail {P : Program} {id : Nat} {Q : Exit → Act → World → Prop} {a : Act} {w : World} {l : List Oper} (n : Nat) (hm : P.follows .mixedOrders = true) (hB : Region.lexTailB .any l.toArray n = true)
    (h : wpStill P l.toArray w.drew (fun a' => wpList P l.toArray Q (l.drop n) a' w.drew) (l.take n) a) : (Code.region id l.toArray true).wp P Q a w :=
  wp_region_still_tail n hm hB h

theorem ret_bool {a b : Bool} (h : a = b) : Ending.returned (.bool a) = .returned (.bool b) := by rw [h]

end Go.Proofs.Ytblgapcpkeapaaa

namespace Go.Proofs.Ytblgapcpkeapaaa
open Go.RowKit

/-- block g is a row of just n tokens, those of l -/
def TokOwn (w : World) (g n : Nat) (l : List (Int × Int)) : Prop :=
  l.length = n ∧ ∃ cs, Blk w g 112 cs ∧ cs.size = n * 2 ∧ ∀ k, k < n → cs[k * 2]? = some (.int .i64 (l.getD k (0, 0)).1) ∧ cs[k * 2 + 1]? = some (.int .i64 (l.getD k (0, 0)).2)

theorem TokOwn.reads {w : World} {g n : Nat} {l : List (Int × Int)} (h : TokOwn w g n l) : TokR w (g + 1) (some ⟨g, 0, none⟩) n l := by
  obtain ⟨hl, cs, hb, hs, hc⟩ := h
  refine ⟨hl, fun _ => ⟨g, 0, rfl, by omega, fun k hk => ?_⟩⟩
  rw [hb.cell, hb.cell, Nat.zero_add]
  exact hc k hk
theorem TokOwn.below {w w' : World} {g n B : Nat} {l : List (Int × Int)} (h : TokOwn w g n l) (hb : Below B w w') (hg : g < B) : TokOwn w' g n l := by
  obtain ⟨hl, cs, hblk, rest⟩ := h
  exact ⟨hl, cs, hblk.below hb hg, rest⟩

end Go.Proofs.Ytblgapcpkeapaaa

namespace Go.Proofs.Ytblgapcpkeapaaa
open Go.RowKit

/-- two lists of one length that agree up to k -/
def Agree {α : Type} (d : α) (k : Nat) (l m : List α) : Prop := ∀ j, j < k → l.getD j d = m.getD j d
theorem agree_all {α : Type} {d : α} {n : Nat} {l m : List α} (h1 : l.length = n) (h2 : m.length = n) (h : Agree d n l m) : l = m := by
  apply List.ext_getElem (by omega)
  intro i hi hj
  have := h i (by omega)
  simpa [List.getD_eq_getElem?_getD, List.getElem?_eq_getElem hi, List.getElem?_eq_getElem hj] using this
theorem agree_step {α : Type} {d : α} {k : Nat} {l m : List α} (h : Agree d k l m) (e : l.getD k d = m.getD k d) : Agree d (k + 1) l m := by
  intro j hj
  by_cases hjk : j = k
  · subst hjk; exact e
  · exact h j (by omega)

end Go.Proofs.Ytblgapcpkeapaaa

namespace Go.Proofs.Ytblgapcpkeapaaa
open Go.RowKit

/-- block g is a row of just n numbers, those of l -/
def IntOwn (w : World) (g n : Nat) (l : List Int) : Prop :=
  l.length = n ∧ ∃ cs, Blk w g 3 cs ∧ cs.size = n ∧ ∀ k, k < n → cs[k]? = some (.int .i64 (l.getD k 0))
theorem IntOwn.reads {w : World} {g n : Nat} {l : List Int} (h : IntOwn w g n l) : IntR w (g + 1) (some ⟨g, 0, none⟩) n l := by
  obtain ⟨hl, cs, hb, hs, hc⟩ := h
  refine ⟨hl, fun _ => ⟨g, 0, rfl, by omega, fun k hk => ?_⟩⟩
  rw [hb.cell, Nat.zero_add]
  exact hc k hk

set_option maxRecDepth 100000 in
set_option maxHeartbeats 1000000 in
theorem eqIntS_any (w : World) (B : Nat) (A1 A2 : Option Addr) (n1 n2 c1 c2 : Nat) (l m : List Int) (hB : B ≤ w.heap.size) (hl : IntR w B A1 n1 l) (hm : IntR w B A2 n2 m)
    (hn1 : (n1 : Int) ≤ 140737488355328) (hn2 : (n2 : Int) ≤ 140737488355328) :
    Calls Try.prog 16 #[.slice A1 n1 c1, .slice A2 n2 c2] w fun e w' => e = .returned (.bool (decide (l = m))) ∧ Below w.heap.size w w' := by
  by_cases hne : n1 = n2
  · subst hne
    have en : ((n1 : Int) != (n1 : Int)) = false := by simp
    go_enter Try.func16, Try.ntmps16
    go_wp2
    go_loopw [5] (fun i wr => ∃ k : Nat, k ≤ n1 ∧ i = .int .i64 k ∧ Agree 0 k l m ∧ Below w.heap.size w wr) (fun i _ => n1 - (intOf i).toNat)
    case atStart => exact ⟨0, Nat.zero_le _, rfl, (fun j hj => absurd hj (by omega)), Below.refl _ _⟩
    case round =>
      obtain ⟨k, hk, rfl, hag, hbel⟩ := hrel
      have HG := Lib.hid hag
      clear hag
      by_cases hlt : k < n1
      · obtain ⟨b, off, rfl, hb, hc⟩ := hl.2 (by omega)
        have x1 := hc k hlt
        obtain ⟨b', off', rfl, hb', hc'⟩ := hm.2 (by omega)
        have y1 := hc' k hlt
        obtain ⟨t, ht⟩ : ∃ t, l.getD k 0 = t := ⟨_, rfl⟩
        obtain ⟨u, hu⟩ : ∃ u, m.getD k 0 = u := ⟨_, rfl⟩
        rw [ht] at x1
        rw [hu] at y1
        have HT := Lib.hid ht
        have HU := Lib.hid hu
        have k1 := (hbel.cell (p := ⟨b, off + k, none⟩) (by show b < _; omega)).trans x1
        have k3 := (hbel.cell (p := ⟨b', off' + k, none⟩) (by show b' < _; omega)).trans y1
        have HB := Lib.hid hbel.drew
        clear x1 y1 hc hc' ht hu hl hm
        by_cases heq : t = u
        · subst heq
          have HA : Hid (Agree 0 (k + 1) l m) := agree_step HG.out (by rw [HT.out, HU.out])
          go_wp2_with fail
          refine region_tail 8 (by kernel_rfl) (by kernel_rfl) ?_
          simp only [List.take_succ_cons, List.take_zero, List.drop_succ_cons, List.drop_zero]
          repeat still_step
          refine wpStill_nil ?_
          go_wp2
          go_roundw
          case rel => exact ⟨k + 1, by omega, by go_num, HA.out, HB.out⟩
          case measure => simp [intOf]; omega
        · have dne : (t != u) = true := by simpa using heq
          have HF : Hid (decide (l = m) = false) := by
            show _ = _
            rw [decide_eq_false_iff_not]
            intro h
            apply heq
            rw [← HT.out, ← HU.out, h]
          clear heq
          go_wp2_with fail
          refine region_tail 8 (by kernel_rfl) (by kernel_rfl) ?_
          simp only [List.take_succ_cons, List.take_zero, List.drop_succ_cons, List.drop_zero]
          repeat still_step
          refine wpStill_nil ?_
          go_wp2
          go_ret
          exact ⟨by rw [HF.out]; rfl, HB.out⟩
      · obtain rfl : k = n1 := by omega
        have HF : Hid (decide (l = m) = true) := by
          show _ = _
          rw [decide_eq_true_eq]
          exact agree_all hl.1 hm.1 HG.out
        clear hl hm
        go_wp2
        go_ret
        exact ⟨by rw [HF.out]; rfl, hbel⟩
  · have HF : Hid (decide (l = m) = false) := by
      show _ = _
      rw [decide_eq_false_iff_not]
      intro h
      apply hne
      rw [← hl.1, ← hm.1, h]
    have en : ((n1 : Int) != (n2 : Int)) = true := by simp; omega
    clear hl hm hne
    go_enter Try.func16, Try.ntmps16
    go_wp2
    go_ret
    exact ⟨by rw [HF.out]; rfl, Below.refl _ _⟩
end Go.Proofs.Ytblgapcpkeapaaa

namespace Go.Proofs.Ytblgapcpkeapaaa
open Go.RowKit

/-- the cells of a list of tokens -/
def tokCells (l : List (Int × Int)) : List Value := l.flatMap fun t => [.int .i64 t.1, .int .i64 t.2]
theorem tokCells_cons (t : Int × Int) (l : List (Int × Int)) : tokCells (t :: l) = .int .i64 t.1 :: .int .i64 t.2 :: tokCells l := rfl
theorem tokCells_len (l : List (Int × Int)) : (tokCells l).length = l.length * 2 := by
  induction l with
  | nil => rfl
  | cons t r ih => rw [tokCells_cons]; simp [ih]; omega
theorem tokCells_at (l : List (Int × Int)) (k : Nat) (hk : k < l.length) : (tokCells l)[k * 2]? = some (.int .i64 (l.getD k (0, 0)).1) ∧ (tokCells l)[k * 2 + 1]? = some (.int .i64 (l.getD k (0, 0)).2) := by
  induction l generalizing k with
  | nil => simp at hk
  | cons t r ih =>
    rw [tokCells_cons]
    cases k with
    | zero => exact ⟨rfl, rfl⟩
    | succ k =>
      have h := ih k (by simpa using hk)
      rw [show (k + 1) * 2 = k * 2 + 1 + 1 by omega]
      exact h

/-- a row of the call's own, of numbers -/
abbrev OwnI (w : World) (base : Nat) (A : Option Addr) (n c : Nat) (l : List Int) : Prop := w.ownsRow base 3 1 (.slice A n c) n (l.map (Value.int .i64))
/-- a row of the call's own, of tokens -/
abbrev OwnT (w : World) (base : Nat) (A : Option Addr) (n c : Nat) (l : List (Int × Int)) : Prop := w.ownsRow base 112 2 (.slice A n c) n (tokCells l)

theorem own_adds {g j : Nat} : (⟨g, 0, none⟩ : Addr).add j = ⟨g, j, none⟩ := by
  unfold Addr.add
  by_cases h : j = 0
  · subst h; rfl
  · rw [if_neg h]; simp

theorem OwnI.reads {w : World} {base : Nat} {A : Option Addr} {n c : Nat} {l : List Int} (h : OwnI w base A n c l) : IntR w w.heap.size A n l := by
  have hl : l.length = n := by have := h.1; simpa using this
  refine ⟨hl, fun hn => ?_⟩
  rcases h.2 with ⟨_, h0⟩ | ⟨g, cap, cur, hv, hb, hgg, h1, h2, h3, h4⟩
  · omega
  · injection hv with e1 e2 e3
    subst e1
    refine ⟨g, 0, rfl, (Array.getElem?_eq_some_iff.1 hgg).1, fun k hk => ?_⟩
    have := h.cells (g := g) rfl k (.int .i64 (l.getD k 0)) (by
      have hk' : k < l.length := by omega
      simp [List.getD_eq_getElem?_getD, List.getElem?_eq_getElem hk'])
    rw [own_adds] at this
    rw [Nat.zero_add]
    exact this

theorem OwnT.reads {w : World} {base : Nat} {A : Option Addr} {n c : Nat} {l : List (Int × Int)} (h : OwnT w base A n c l) : TokR w w.heap.size A n l := by
  have hl : l.length = n := by have := h.1; rw [tokCells_len] at this; omega
  refine ⟨hl, fun hn => ?_⟩
  rcases h.2 with ⟨_, h0⟩ | ⟨g, cap, cur, hv, hb, hgg, h1, h2, h3, h4⟩
  · omega
  · injection hv with e1 e2 e3
    subst e1
    refine ⟨g, 0, rfl, (Array.getElem?_eq_some_iff.1 hgg).1, fun k hk => ?_⟩
    have ht := tokCells_at l k (by omega)
    have h5 := h.cells (g := g) rfl (k * 2) _ ht.1
    have h6 := h.cells (g := g) rfl (k * 2 + 1) _ ht.2
    rw [own_adds] at h5 h6
    rw [Nat.zero_add]
    exact ⟨h5, h6⟩

theorem TokOwn.owns {w : World} {g n : Nat} {l : List (Int × Int)} (h : TokOwn w g n l) (hn : n ≤ 1048576) : OwnT w g (some ⟨g, 0, none⟩) n n l := by
  obtain ⟨hl, cs, hblk, hs, hc⟩ := h
  refine ⟨by rw [tokCells_len, hl], .inr ⟨g, n, cs, rfl, Nat.le_refl _, hblk, Nat.le_refl _, by unfold maxLen; omega, hs, ?_⟩⟩
  rw [← hs, List.take_of_length_le (by simp)]
  apply List.ext_getElem?
  intro i
  by_cases hi : i < n * 2
  · rcases Nat.mod_two_eq_zero_or_one i with h0 | h0
    · obtain ⟨k, rfl⟩ : ∃ k, i = k * 2 := ⟨i / 2, by omega⟩
      rw [(tokCells_at l k (by omega)).1, Array.getElem?_toList]
      exact (hc k (by omega)).1
    · obtain ⟨k, rfl⟩ : ∃ k, i = k * 2 + 1 := ⟨i / 2, by omega⟩
      rw [(tokCells_at l k (by omega)).2, Array.getElem?_toList]
      exact (hc k (by omega)).2
  · rw [List.getElem?_eq_none (by simp; omega), List.getElem?_eq_none (by rw [tokCells_len]; omega)]

/-- an owned row below B is kept where all below B is -/
theorem own_below {w w' : World} {B base : Nat} {e : TypeId} {size n : Nat} {v : Value} {xs : List Value} (h : w.ownsRow base e size v n xs) (hb : Below B w w') (hB : ∀ k, v.ownBlock = some k → k < B) : w'.ownsRow base e size v n xs := by
  refine ⟨h.1, ?_⟩
  rcases h.2 with hn | ⟨g, cap, cur, rfl, hbg, hgg, rest⟩
  · exact .inl hn
  · exact .inr ⟨g, cap, cur, rfl, hbg, (hb.block g (hB g rfl)).trans hgg, rest⟩
theorem own_below' {w w' : World} {base : Nat} {e : TypeId} {size n : Nat} {v : Value} {xs : List Value} (h : w.ownsRow base e size v n xs) (hb : Below w.heap.size w w') : w'.ownsRow base e size v n xs :=
  own_below h hb (fun k hk => (h.lt k hk).2)
theorem own_base {w : World} {base base' : Nat} {e : TypeId} {size n : Nat} {v : Value} {xs : List Value} (h : w.ownsRow base e size v n xs) (hb : base' ≤ base) : w.ownsRow base' e size v n xs := by
  refine ⟨h.1, ?_⟩
  rcases h.2 with hn | ⟨g, cap, cur, rfl, hbg, rest⟩
  · exact .inl hn
  · exact .inr ⟨g, cap, cur, rfl, by omega, rest⟩

/-- the marks k, k + 1, .. -/
def marks (k m : Nat) : List Value := (List.range m).map fun i => .int .i64 ((k + i : Nat) : Int)
theorem marks_len (k m : Nat) : (marks k m).length = m := by simp [marks]
theorem marks_at (k m i : Nat) (h : i < m) : (marks k m)[i]? = some (.int .i64 ((k + i : Nat) : Int)) := by simp [marks, h]

/-- the first j cells of a row are marked -/
def Marking (w : World) (g : Nat) (e : TypeId) (sz k j : Nat) (wr : World) : Prop :=
  w.grownBy wr (some g) ∧ wr.heap.size = w.heap.size ∧ ∃ cs, Blk wr g e cs ∧ cs.size = sz ∧ ∀ i, i < j → cs[i]? = some (.int .i64 ((k + i : Nat) : Int))
theorem marking_step {w wr : World} {g sz k j : Nat} {e : TypeId} (h : Marking w g e sz k j wr) (hj : j < sz) : Marking w g e sz k (j + 1) (wr.setCell ⟨g, j, none⟩ (.int .i64 ((k + j : Nat) : Int))) := by
  obtain ⟨hg, hz, cs, hblk, hs, hc⟩ := h
  refine ⟨⟨hg.os, hg.tape, hg.output, by simpa [World.setCell] using hg.size, fun i hi hne => (Below.heap_setCell wr ⟨g, j, none⟩ _ i (by intro he; subst he; exact hne rfl)).trans (hg.block i hi hne)⟩, by simpa [World.setCell] using hz, _, hblk.put _ _, by simp [hs], ?_⟩
  intro i hi
  by_cases e : i = j
  · subst e
    rw [Array.getElem?_setIfInBounds_self_of_lt (by omega)]
  · rw [Array.getElem?_setIfInBounds_ne (by omega)]
    exact hc i (by omega)

/-- a row that has been marked whole -/
theorem marked {w wr : World} {g base n c size k : Nat} {e : TypeId} {xs : List Value} (hown : w.ownsRow base e size (.slice (some ⟨g, 0, none⟩) n c) n xs) (h : Marking w g e (c * size) k (n * size) wr) :
    wr.ownsRow base e size (.slice (some ⟨g, 0, none⟩) n c) n (marks k (n * size)) := by
  obtain ⟨hg, hz, cs, hblk, hs, hc⟩ := h
  rcases hown.2 with ⟨h0, _⟩ | ⟨g', cap, cur, hv, hb, hgg, h1, h2, h3, h4⟩
  · cases h0
  · injection hv with e1 e2 e3
    injection e1 with e1
    injection e1 with e1
    subst e1; subst e3
    have hle : n * size ≤ c * size := Nat.mul_le_mul_right _ h1
    refine ⟨marks_len _ _, .inr ⟨g, c, cs, rfl, hb, hblk, h1, h2, hs, ?_⟩⟩
    apply List.ext_getElem?
    intro i
    by_cases hi : i < n * size
    · rw [marks_at _ _ _ hi, List.getElem?_take_of_lt hi, Array.getElem?_toList]
      exact hc i hi
    · rw [List.getElem?_eq_none (by simp; omega), List.getElem?_eq_none (by rw [marks_len]; omega)]

/-- a mark leaves: the row marked, nothing else turned -/
def MarkOut (w : World) (base : Nat) (e : TypeId) (size : Nat) (v : Value) (n k : Nat) (w' : World) : Prop :=
  w.grownBy w' v.ownBlock ∧ w'.heap.size = w.heap.size ∧ w'.ownsRow base e size v n (marks k (n * size))

theorem own_empty {w : World} {base : Nat} {e : TypeId} {size c : Nat} {A : Option Addr} {xs : List Value} (h : w.ownsRow base e size (.slice A 0 c) 0 xs) (k : Nat) : w.ownsRow base e size (.slice A 0 c) 0 (marks k (0 * size)) := by
  have hx : xs = [] := List.eq_nil_of_length_eq_zero (by simpa using h.1)
  rw [hx] at h
  simpa [marks] using h

set_option maxHeartbeats 800000 in
theorem markIntS_any (w : World) (base : Nat) (A : Option Addr) (n c : Nat) (xs : List Value) (hown : w.ownsRow base 3 1 (.slice A n c) n xs) (k : Nat) (hn : n ≤ 3000000) (hk : k ≤ 3000000) :
    Calls Try.prog 18 #[.slice A n c, .int .i64 k] w fun e w' => e = .returned (.int .i64 ((k + n : Nat) : Int)) ∧ MarkOut w base 3 1 (.slice A n c) n k w' := by
  by_cases h0 : n = 0
  · subst h0
    have HO := Lib.hid (own_empty hown k)
    clear hown
    go_enter Try.func18, Try.ntmps18
    go_wp2
    go_loop [1, 5] (fun m i => m = .int .i64 k ∧ i = .int .i64 0) (fun _ _ => 0)
    case atStart => exact ⟨rfl, rfl⟩
    case round =>
      obtain ⟨rfl, rfl⟩ := hrel
      go_wp2
      go_ret
      exact ⟨rfl, World.grownBy.refl _ _, rfl, HO.out⟩
  · rcases hown.2 with ⟨_, h⟩ | ⟨g, cap, cur, hv, hb, hgg, h1, h2, h3, h4⟩
    · omega
    · injection hv with e1 e2 e3
      subst e1; subst e3
      have hblk : Blk w g 3 cur := hgg
      have HS : Hid (Marking w g 3 (c * 1) k 0 w) := ⟨World.grownBy.refl _ _, rfl, cur, hblk, h3, by intro i hi; omega⟩
      have HW := Lib.hid hown
      clear hgg hblk h3 h4 hown
      go_enter Try.func18, Try.ntmps18
      go_wp2
      go_loopw [1, 5] (fun m i wr => ∃ j : Nat, j ≤ n ∧ i = .int .i64 j ∧ m = .int .i64 ((k + j : Nat) : Int) ∧ Marking w g 3 (c * 1) k j wr) (fun _ i _ => n - (intOf i).toNat)
      case atStart => exact ⟨0, Nat.zero_le _, rfl, rfl, HS.out⟩
      case round =>
        obtain ⟨j, hj, rfl, rfl, hM⟩ := hrel
        by_cases hlt : j < n
        · have HN := Lib.hid (marking_step hM (by omega))
          obtain ⟨_, _, cs, hblk, hs, _⟩ := hM
          have f1 := hblk.thawed j
          obtain ⟨v1, d1⟩ : ∃ v1, wr.cell? ⟨g, j, none⟩ = some v1 := ⟨_, (hblk.cell _).trans (Array.getElem?_eq_getElem (by omega))⟩
          clear hblk hs
          go_wp2
          go_roundw
          case rel => exact ⟨j + 1, by omega, by go_num, by go_num, by simpa using HN.out⟩
          case measure => simp [intOf]; omega
        · obtain rfl : j = n := by omega
          have HM := Lib.hid hM
          clear hM
          go_wp2
          go_ret
          have hM := HM.out
          exact ⟨rfl, hM.1, hM.2.1, marked (size := 1) HW.out (by simpa using hM)⟩

set_option maxHeartbeats 800000 in
theorem heldIntS_any (w : World) (base : Nat) (A : Option Addr) (n c : Nat) (k : Nat) (hown : w.ownsRow base 3 1 (.slice A n c) n (marks k (n * 1))) (hn : n ≤ 3000000) (hk : k ≤ 3000000) :
    Calls Try.prog 19 #[.slice A n c, .int .i64 k] w fun e w' => e = .returned (.int .i64 ((k + n : Nat) : Int)) ∧ w = w' := by
  by_cases h0 : n = 0
  · subst h0
    clear hown
    go_enter Try.func19, Try.ntmps19
    go_wp2
    go_loop [1, 5] (fun m i => m = .int .i64 k ∧ i = .int .i64 0) (fun _ _ => 0)
    case atStart => exact ⟨rfl, rfl⟩
    case round =>
      obtain ⟨rfl, rfl⟩ := hrel
      go_wp2
      go_ret
      exact ⟨rfl, rfl⟩
  · rcases hown.2 with ⟨_, h⟩ | ⟨g, cap, cur, hv, hb, hgg, h1, h2, h3, h4⟩
    · omega
    · injection hv with e1 e2 e3
      subst e1; subst e3
      have HC : Hid (∀ j, j < n → w.cell? ⟨g, j, none⟩ = some (.int .i64 ((k + j : Nat) : Int))) := by
        intro j hj
        have := hown.cells (g := g) rfl j _ (marks_at k (n * 1) j (by omega))
        rw [own_adds] at this
        exact this
      clear hgg h3 h4 hown
      go_enter Try.func19, Try.ntmps19
      go_wp2
      go_loop [1, 5] (fun m i => ∃ j : Nat, j ≤ n ∧ i = .int .i64 j ∧ m = .int .i64 ((k + j : Nat) : Int)) (fun _ i => n - (intOf i).toNat)
      case atStart => exact ⟨0, Nat.zero_le _, rfl, rfl⟩
      case round =>
        obtain ⟨j, hj, rfl, rfl⟩ := hrel
        by_cases hlt : j < n
        · have d1 := HC.out j hlt
          go_wp2
          go_round
          case rel => exact ⟨j + 1, by omega, by go_num, by go_num⟩
          case measure => simp [intOf]; omega
        · obtain rfl : j = n := by omega
          go_wp2
          go_ret
          exact ⟨rfl, rfl⟩

/-- the block of a slice value lies in lo .. hi - 1 -/
def InR (v : Value) (lo hi : Nat) : Prop := ∀ k, v.ownBlock = some k → lo ≤ k ∧ k < hi
theorem own_in {w : World} {base : Nat} {e : TypeId} {size n : Nat} {v : Value} {xs : List Value} (h : w.ownsRow base e size v n xs) : InR v base w.heap.size := fun k hk => h.lt k hk
theorem markBelow {w0 w w' : World} {B base : Nat} {e : TypeId} {size n k : Nat} {v : Value} {lo hi : Nat} (h : Below B w0 w) (hm : MarkOut w base e size v n k w') (hv : InR v lo hi) (hb : B ≤ lo) (hB : B ≤ w.heap.size) : Below B w0 w' :=
  h.grown hm.1 hB (fun k hk => Nat.le_trans hb (hv k hk).1)
theorem markKept {w w' : World} {base base' : Nat} {e e' : TypeId} {size size' n n' k : Nat} {v u : Value} {xs : List Value} {lo hi lo' hi' : Nat} (hu : w.ownsRow base' e' size' u n' xs) (hm : MarkOut w base e size v n k w')
    (hv : InR v lo hi) (hui : InR u lo' hi') (hd : hi ≤ lo' ∨ hi' ≤ lo) : w'.ownsRow base' e' size' u n' xs := by
  refine hu.kept hm.1 ?_
  cases hub : u.ownBlock with
  | none => exact .inl rfl
  | some g =>
    refine .inr (fun he => ?_)
    have h1 := hui g hub
    have h2 := hv g he.symm
    omega
end Go.Proofs.Ytblgapcpkeapaaa
