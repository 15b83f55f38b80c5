/- Words for memory: a slice that reads as a list of pairs or of numbers, a block that is known whole; an env. -/
/- The machine's struct with its stack. -/
/- The machine's methods: each does what one step on the stack says, or panics with errLevel. -/
/- The five actions of the machine's table, each for every state: one step of the plain function, or the panic. -/
/- The machine's push and pop with a frame: every block but the machine's own two stays. -/
import Derived.Test.YtfmhmnpmdjpmeaaDoorRows
import Derived.WalkKit
import Derived.WalkLawsBesides
import Derived.WalkSpells
import Derived.Deep.QuietTactic
import Derived.BigQuiet
import Derived.StillTailTactics
import Derived.Lib.Hide
import Derived.Recover
import Derived.Maps.AppendAt

/- Plain functions on levels as lists of pairs of numbers: validity by heights, evaluation on a stack (its top first), and how the two hang together. Nothing of the program is imported. -/
namespace Go.Proofs.YtfmhmnpmdjpmeaaDoor.Lv

abbrev Tk := Int × Int

/-- one token alone is right -/
def tkOk (t : Tk) : Bool := decide (0 ≤ t.1) && decide (t.1 ≤ 4) && (decide (t.1 = 4) || decide (t.2 = 0)) && decide (0 ≤ t.2) && decide (t.2 < 5)

def takes (op : Int) : Int := if op = 1 then 1 else if op = 2 ∨ op = 3 then 2 else 0

/-- the height behind the tokens, if none of them fails -/
def hts : List Tk → Int → Option Int
  | [], n => some n
  | t :: r, n => if tkOk t = true ∧ takes t.1 ≤ n then hts r (n - takes t.1 + 1) else none

def levelOk (l : List Tk) : Bool := decide (1 ≤ l.length) && decide (l.length ≤ 24) && decide (hts l 0 = some 1)

/-- one token on a stack, its top first -/
def step (env : List Int) (t : Tk) (st : List Int) : Option (List Int) :=
  if tkOk t = true then
    if t.1 = 0 then some (0 :: st)
    else if t.1 = 4 then some (env.getD t.2.toNat 0 :: st)
    else if t.1 = 1 then
      match st with
      | a :: s => some ((a + 1) :: s)
      | [] => none
    else
      match st with
      | b :: a :: s => some ((if t.1 = 3 ∧ b = 0 then 0 else max a b) :: s)
      | _ => none
  else none

def run (env : List Int) : List Tk → List Int → Option (List Int)
  | [], st => some st
  | t :: r, st => (step env t st).bind (run env r)

/-- what LevelEval answers -/
def eval (env : List Int) (l : List Tk) : Option Int :=
  if levelOk l = true then
    match run env l [] with
    | some [v] => some v
    | _ => none
  else none

end Go.Proofs.YtfmhmnpmdjpmeaaDoor.Lv

namespace Go.Proofs.YtfmhmnpmdjpmeaaDoor
open Go.RowKit

/-- the slice value '.slice A n c' reads as the pairs l; its cells lie below block B -/
def TokR (w : World) (B : Nat) (A : Option Addr) (n : Nat) (l : List (Int × Int)) : Prop :=
  l.length = n ∧ (0 < n → ∃ b off, A = some ⟨b, off, none⟩ ∧ b < B ∧ ∀ k, k < n →
    w.cell? ⟨b, off + k * 2, none⟩ = some (.int .i64 (l.getD k (0, 0)).1) ∧ w.cell? ⟨b, off + k * 2 + 1, none⟩ = some (.int .i64 (l.getD k (0, 0)).2))

/-- the slice value '.slice A n c' reads as the numbers l; its cells lie below block B -/
def IntR (w : World) (B : Nat) (A : Option Addr) (n : Nat) (l : List Int) : Prop :=
  l.length = n ∧ (0 < n → ∃ b off, A = some ⟨b, off, none⟩ ∧ b < B ∧ ∀ k, k < n → w.cell? ⟨b, off + k, none⟩ = some (.int .i64 (l.getD k 0)))

section
variable {w w' : World} {B B' n : Nat} {A : Option Addr}
theorem TokR.keep {l : List (Int × Int)} (h : TokR w B A n l) (hk : ∀ p : Addr, p.block < B → w'.cell? p = w.cell? p) : TokR w' B A n l :=
  ⟨h.1, fun hn => by
    obtain ⟨b, off, e, hb, hc⟩ := h.2 hn
    exact ⟨b, off, e, hb, fun k hk' => by rw [hk _ (by exact hb), hk _ (by exact hb)]; exact hc k hk'⟩⟩
theorem TokR.below {l : List (Int × Int)} (h : TokR w B A n l) (hb : Below B w w') : TokR w' B A n l := h.keep fun _ hp => hb.cell hp
theorem TokR.more {l : List (Int × Int)} (h : TokR w B A n l) (hB : B ≤ B') : TokR w B' A n l :=
  ⟨h.1, fun hn => by
    obtain ⟨b, off, e, hb, hc⟩ := h.2 hn
    exact ⟨b, off, e, by omega, hc⟩⟩
theorem IntR.keep {l : List Int} (h : IntR w B A n l) (hk : ∀ p : Addr, p.block < B → w'.cell? p = w.cell? p) : IntR w' B A n l :=
  ⟨h.1, fun hn => by
    obtain ⟨b, off, e, hb, hc⟩ := h.2 hn
    exact ⟨b, off, e, hb, fun k hk' => by rw [hk _ (by exact hb)]; exact hc k hk'⟩⟩
theorem IntR.below {l : List Int} (h : IntR w B A n l) (hb : Below B w w') : IntR w' B A n l := h.keep fun _ hp => hb.cell hp
theorem IntR.more {l : List Int} (h : IntR w B A n l) (hB : B ≤ B') : IntR w B' A n l :=
  ⟨h.1, fun hn => by
    obtain ⟨b, off, e, hb, hc⟩ := h.2 hn
    exact ⟨b, off, e, by omega, hc⟩⟩
end

/-- block g is just the cells cs of element type t, none of them frozen -/
def Blk (w : World) (g : Nat) (t : TypeId) (cs : Array Value) : Prop := w.heap[g]? = some (.cells cs t (0, 0))

section
variable {w w' : World} {g : Nat} {t : TypeId} {cs : Array Value}
theorem Blk.lt (h : Blk w g t cs) : g < w.heap.size := (Array.getElem?_eq_some_iff.1 h).1
theorem Blk.cell (h : Blk w g t cs) (i : Nat) : w.cell? ⟨g, i, none⟩ = cs[i]? := cell_of_row w g i cs t (0, 0) h
theorem Blk.thawed (h : Blk w g t cs) (i : Nat) : w.frozen? ⟨g, i, none⟩ = false := by
  have h' : w.heap[g]? = some (.cells cs t (0, 0)) := h
  simp [World.frozen?, h']
theorem Blk.made (w : World) (t : TypeId) (cs : Array Value) : Blk (w.alloc (.cells cs t)) w.heap.size t cs := heap_alloc_new w _
theorem Blk.alloc (h : Blk w g t cs) (o : Obj) : Blk (w.alloc o) g t cs := (Below.heap_alloc w o g h.lt).trans h
theorem Blk.put (h : Blk w g t cs) (i : Nat) (u : Value) : Blk (w.setCell ⟨g, i, none⟩ u) g t (cs.setIfInBounds i u) := by
  have h' : w.heap[g]? = some (.cells cs t (0, 0)) := h
  show (w.setCell ⟨g, i, none⟩ u).heap[g]? = _
  simp [World.setCell, Array.getElem?_modify, h']
theorem Blk.grown {row : Option Nat} (h : Blk w g t cs) (hb : w.grownBy w' row) (hg : some g ≠ row) : Blk w' g t cs := (hb.block g h.lt hg).trans h
theorem Blk.below {B : Nat} (h : Blk w g t cs) (hb : Below B w w') (hg : g < B) : Blk w' g t cs := (hb.block g hg).trans h
theorem Blk.apart {g' : Nat} {t' : TypeId} {cs' : Array Value} (h : Blk w g t cs) (h' : Blk w g' t' cs') (hne : t ≠ t') : g ≠ g' := by
  rintro rfl
  have e := Eq.trans (Eq.symm h) h'
  injection e with e
  injection e with _ e2
  exact hne e2
theorem own_apart {base : Nat} {e : TypeId} {size n : Nat} {v : Value} {xs : List Value} (h : w.ownsRow base e size v n xs) (hg : Blk w g t cs) (hne : e ≠ t) : v.ownBlock ≠ some g := by
  rcases h.2 with ⟨rfl, _⟩ | ⟨g', cap, cur, rfl, _, hh, _⟩
  · simp [Value.ownBlock]
  · intro he
    have hgg : g' = g := by simpa [Value.ownBlock] using he
    subst hgg
    exact Blk.apart (t := e) hh hg hne rfl
end

/-- a store into another block leaves an owned row as it is -/
theorem own_store {w : World} {base : Nat} {e : TypeId} {size n : Nat} {v : Value} {xs : List Value} (h : w.ownsRow base e size v n xs) {p : Addr} (hp : v.ownBlock ≠ some p.block) (u : Value) :
    (w.setCell p u).ownsRow base e size v n xs := by
  refine ⟨h.1, ?_⟩
  rcases h.2 with hn | ⟨g, cap, cur, rfl, hb, hgg, rest⟩
  · exact .inl hn
  · refine .inr ⟨g, cap, cur, rfl, hb, ?_, rest⟩
    rw [Below.heap_setCell w p u g (by intro he; subst he; exact hp rfl)]
    exact hgg

theorem info_int : (Tryd.prog.info? 3).map (fun i => (i.zero, i.size, i.bytes)) = some (some (.int .i64 0), 1, 8) := by kernel_rfl

/-- a region that draws, whose first n operations only read: the draw said by its name -/
theorem region_tail {P : Program} {id : Nat} {Q : Exit → Act → World → Prop} {a : Act} {w : World} {l : List Oper} (n : Nat) (hm : P.follows .mixedOrders = true) (hB : Region.lexTailB .any l.toArray n = true)
    (h : wpStill P l.toArray w.drew (fun a' => wpList P l.toArray Q (l.drop n) a' w.drew) (l.take n) a) : (Code.region id l.toArray true).wp P Q a w :=
  wp_region_still_tail n hm hB h

theorem ret_bool {a b : Bool} (h : a = b) : Ending.returned (.bool a) = .returned (.bool b) := by rw [h]

/-- an env of five numbers in 0..1000 -/
def envOk (env : List Int) : Bool := decide (env.length = 5) && env.all fun x => decide (0 ≤ x) && decide (x ≤ 1000)

set_option maxHeartbeats 800000 in
theorem envOk_any (w : World) (B : Nat) (A : Option Addr) (n c : Nat) (env : List Int) (hR : IntR w B A n env) (hn : (n : Int) ≤ 140737488355328) :
    Calls Tryd.prog 67 #[.slice A n c] w fun e w' => e = .returned (.bool (envOk env)) ∧ w = w' := by
  by_cases h5 : n = 5
  · subst h5
    obtain ⟨hlen, hc⟩ := hR
    obtain ⟨b, off, rfl, hb, hc⟩ := hc (by omega)
    have HL := Lib.hid hlen
    clear hlen
    go_enter Tryd.func67, Tryd.ntmps67
    go_wp2
    go_loop [10] (fun i => ∃ k : Nat, k ≤ 5 ∧ i = .int .i64 k ∧ (env.take k).all (fun x => decide (0 ≤ x) && decide (x ≤ 1000)) = true) (fun i => 5 - (intOf i).toNat)
    case atStart => exact ⟨0, by omega, rfl, by simp⟩
    case round =>
      obtain ⟨k, hk, rfl, hall⟩ := hrel
      by_cases hlt : k < 5
      · have hcell := hc k hlt
        have hall2 : (env.take (k + 1)).all (fun x => decide (0 ≤ x) && decide (x ≤ 1000)) = (decide (0 ≤ env.getD k 0) && decide (env.getD k 0 ≤ 1000)) := by
          have hl := HL.out
          rw [List.take_succ_eq_append_getElem (by omega), List.all_append, hall]
          simp [List.getD_eq_getElem?_getD, List.getElem?_eq_getElem (show k < env.length by omega)]
        have HA := Lib.hid hall2
        generalize env.getD k 0 = v at hcell HA
        clear hall hall2 hc
        by_cases hv : 0 ≤ v ∧ v ≤ 1000
        · obtain ⟨hv0, hv1⟩ := hv
          go_wp2
          go_round
          case rel => exact ⟨k + 1, by omega, by go_num, by rw [HA.out]; simp; omega⟩
          case measure => simp [intOf]; omega
        · have HF : Hid (envOk env = false) := by
            have h := HA.out
            show envOk env = false
            rw [Bool.eq_false_iff]
            intro hk
            simp only [envOk, Bool.and_eq_true, List.all_eq_true] at hk
            have h2 : (env.take (k + 1)).all (fun x => decide (0 ≤ x) && decide (x ≤ 1000)) = true := by
              rw [List.all_eq_true]; intro x hx; simpa using hk.2 x (List.mem_of_mem_take hx)
            rw [h] at h2
            simp at h2
            omega
          by_cases hv0 : v < 0
          · go_wp2
            go_ret
            exact ⟨by rw [HF.out]; rfl, rfl⟩
          · have hv1 : 1000 < v := by omega
            clear hv
            go_wp2
            go_ret
            exact ⟨by rw [HF.out]; rfl, rfl⟩
      · have HF : Hid (envOk env = true) := by
          show envOk env = true
          rw [List.take_of_length_le (by rw [HL.out]; omega)] at hall
          simp only [envOk, hall, HL.out]; rfl
        clear hall hc
        go_wp2
        go_ret
        exact ⟨by rw [HF.out]; rfl, rfl⟩
  · have HF : Hid (envOk env = false) := by
      show envOk env = false
      simp [envOk, hR.1, h5]
    have hne : ((n : Int) != 5) = true := by simp; omega
    clear hR
    go_enter Tryd.func67, Tryd.ntmps67
    go_wp2
    go_ret
    exact ⟨by rw [HF.out]; rfl, rfl⟩

theorem envOk_mem {env : List Int} (h : envOk env = true) : env.length = 5 ∧ ∀ x ∈ env, 0 ≤ x ∧ x ≤ 1000 := by
  simp only [envOk, Bool.and_eq_true, decide_eq_true_eq, List.all_eq_true] at h
  exact h

end Go.Proofs.YtfmhmnpmdjpmeaaDoor

namespace Go.Proofs.YtfmhmnpmdjpmeaaDoor
open Go.RowKit

/-- every block of another element type than int and machine is as it was -/
def Keeps (w w' : World) : Prop := ∀ (k : Nat) (cs : Array Value) (t : TypeId) (fr : Nat × Nat), w.heap[k]? = some (.cells cs t fr) → t ≠ 3 → t ≠ 96 → w'.heap[k]? = some (.cells cs t fr)

section
variable {w w' w'' : World}
theorem Keeps.refl (w : World) : Keeps w w := fun _ _ _ _ h _ _ => h
theorem Keeps.trans (h : Keeps w w') (h' : Keeps w' w'') : Keeps w w'' := fun k cs t fr hk h1 h2 => h' k cs t fr (h k cs t fr hk h1 h2) h1 h2
theorem Keeps.alloc (h : Keeps w w') (o : Obj) : Keeps w (w'.alloc o) := fun k cs t fr hk h1 h2 => by
  have h3 := h k cs t fr hk h1 h2
  rw [Below.heap_alloc w' o k (Array.getElem?_eq_some_iff.1 h3).1]
  exact h3
theorem Keeps.grown {row : Option Nat} (h : Keeps w w') (hg : w'.grownBy w'' row) (hr : ∀ g, row = some g → ∃ cs, Blk w' g 3 cs) : Keeps w w'' := fun k cs t fr hk h1 h2 => by
  have h3 := h k cs t fr hk h1 h2
  rw [hg.block k (Array.getElem?_eq_some_iff.1 h3).1 (fun e => by
    obtain ⟨cs', hb⟩ := hr k e.symm
    have e := Eq.trans (Eq.symm h3) hb
    injection e with e
    injection e with _ e2
    exact h1 e2)]
  exact h3
theorem Keeps.store (h : Keeps w w') {p : Addr} {cs' : Array Value} (hb : Blk w' p.block 96 cs') (u : Value) : Keeps w (w'.setCell p u) := fun k cs t fr hk h1 h2 => by
  have h3 := h k cs t fr hk h1 h2
  rw [Below.heap_setCell w' p u k (fun e => by
    subst e
    have e := Eq.trans (Eq.symm h3) hb
    injection e with e
    injection e with _ e2
    exact h2 e2)]
  exact h3
end

/-- the cells of the machine's struct -/
def machCells (env : List Int) (sv : Value) : Array Value := (env.map (Value.int .i64) ++ [sv]).toArray

/-- block bm holds the machine: its env, and a stack of its own above B (its top first in st) -/
def Mach (w : World) (B bm : Nat) (env st : List Int) : Prop :=
  B ≤ bm ∧ env.length = 5 ∧ ∃ (A : Option Addr) (c : Nat), Blk w bm 96 (machCells env (.slice A st.length c)) ∧
    w.ownsRow B 3 1 (.slice A st.length c) st.length (st.reverse.map (Value.int .i64))

theorem mach_stack (env : List Int) (sv : Value) (h : env.length = 5) : (machCells env sv)[5]? = some sv := by
  simp [machCells, h]
theorem mach_env (env : List Int) (sv : Value) (h : env.length = 5) (i : Nat) (hi : i < 5) : (machCells env sv)[i]? = some (.int .i64 (env.getD i 0)) := by
  have hl : i < env.length := by omega
  simp [machCells, List.getElem?_append, hl]
theorem mach_put (env : List Int) (sv sv' : Value) (h : env.length = 5) : (machCells env sv).setIfInBounds 5 sv' = machCells env sv' := by
  simp [machCells, h]

/-- what the variable errLevel holds -/
def ErrAt (w : World) (T : TypeId) (pv : Value) : Prop := w.cell? ⟨0, 0, none⟩ = some (.iface T pv)
theorem ErrAt.below {w w' : World} {B : Nat} {T : TypeId} {pv : Value} (h : ErrAt w T pv) (hb : Below B w w') (hB : 0 < B) : ErrAt w' T pv := (hb.cell (p := ⟨0, 0, none⟩) hB).trans h

end Go.Proofs.YtfmhmnpmdjpmeaaDoor

namespace Go.Proofs.YtfmhmnpmdjpmeaaDoor
open Go.RowKit

/-- the panic with errLevel -/
def Bad (T : TypeId) (pv : Value) : Ending := .panicked [{ v := .iface T pv, recovered := false }]

/-- a row of n + 1 cells, cut to n -/
theorem own_pop {w : World} {base g cap n : Nat} {e : TypeId} {xs : List Value} {x : Value} (h : w.ownsRow base e 1 (.slice (some ⟨g, 0, none⟩) (n + 1) cap) (n + 1) (xs ++ [x])) :
    w.ownsRow base e 1 (.slice (some ⟨g, 0, none⟩) n cap) n xs := by
  have hl := h.1
  simp at hl
  rcases h.2 with ⟨h0, _⟩ | ⟨g', cap', cur, hv, hb, hgg, h1, h2, h3, h4⟩
  · cases h0
  · injection hv with e1 e2 e3
    injection e1 with e1
    injection e1 with e1
    subst e1; subst e3
    refine ⟨by omega, .inr ⟨g, cap, cur, rfl, hb, hgg, by omega, h2, h3, ?_⟩⟩
    have := congrArg (List.take n) h4
    rw [List.take_take] at this
    rw [show min n ((n + 1) * 1) = n * 1 by omega] at this
    rw [this, ← hl, List.take_left']
    rfl

set_option maxHeartbeats 400000 in
theorem pop_none (w : World) (B bm : Nat) (env : List Int) (T : TypeId) (pv : Value) (hm : Mach w B bm env []) (hE : ErrAt w T pv) :
    Calls Tryd.prog 72 #[.pointer (some ⟨bm, 0, none⟩)] w fun e w' => e = Bad T pv ∧ w = w' := by
  obtain ⟨hB, he, A, c, hblk, hown⟩ := hm
  have hc5 : w.cell? ⟨bm, 5, none⟩ = some (.slice A 0 c) := (hblk.cell 5).trans (mach_stack env _ he)
  unfold ErrAt at hE
  clear he hown hblk
  go_enter Tryd.func72, Tryd.ntmps72
  go_wp2
  exact ⟨rfl, rfl, rfl⟩

set_option maxHeartbeats 400000 in
theorem needZero_yes (n : Int) (w : World) (h : n = 0) :
    Calls Tryd.prog 119 #[.int .i64 n] w fun e w' => e = .returned (.tuple #[]) ∧ w = w' := by
  subst h
  go_enter Tryd.func119, Tryd.ntmps119
  go_wp2
  go_end0
  exact ⟨rfl, rfl⟩

set_option maxHeartbeats 400000 in
theorem needZero_no (n : Int) (w : World) (T : TypeId) (pv : Value) (h : n ≠ 0) (hE : ErrAt w T pv) :
    Calls Tryd.prog 119 #[.int .i64 n] w fun e w' => e = Bad T pv ∧ w = w' := by
  have h1 : (n != 0) = true := by simpa using h
  unfold ErrAt at hE
  go_enter Tryd.func119, Tryd.ntmps119
  go_wp2
  exact ⟨rfl, rfl, rfl⟩
end Go.Proofs.YtfmhmnpmdjpmeaaDoor

namespace Go.Proofs.YtfmhmnpmdjpmeaaDoor
open Go.RowKit

section
variable (w : World) (B bm : Nat) (env st : List Int) (T : TypeId) (pv : Value) (n : Int)

theorem tk_no (i : Int) (hi : i = 0 ∨ i = 1 ∨ i = 2 ∨ i = 3) (h : n ≠ 0) : Lv.step env (i, n) st = none := by
  have : Lv.tkOk (i, n) = false := by
    rw [Bool.eq_false_iff]; intro hk; simp [Lv.tkOk] at hk; omega
  simp [Lv.step, this]

theorem max_step (s : List Int) (a b : Int) : Lv.step env (2, 0) (b :: a :: s) = some (max a b :: s) := by simp [Lv.step, Lv.tkOk]
theorem imax_step (s : List Int) (a b : Int) (h : ¬ b = 0) : Lv.step env (3, 0) (b :: a :: s) = some (max a b :: s) := by simp [Lv.step, Lv.tkOk, h]

end
end Go.Proofs.YtfmhmnpmdjpmeaaDoor

namespace Go.Proofs.YtfmhmnpmdjpmeaaDoor
open Go.RowKit

/-- block g is that of the stack of the machine in block bm -/
def StkB (w : World) (bm g : Nat) : Prop := ∃ v, w.cell? ⟨bm, 5, none⟩ = some v ∧ v.ownBlock = some g
/-- all blocks but the machine's own stay, and its stack goes into none of them -/
def KeepA (bm : Nat) (w w' : World) : Prop := w.heap.size ≤ w'.heap.size ∧ ∀ g, g < w.heap.size → g ≠ bm → ¬ StkB w bm g → w'.heap[g]? = w.heap[g]? ∧ ¬ StkB w' bm g
theorem KeepA.refl (bm : Nat) (w : World) : KeepA bm w w := ⟨Nat.le_refl _, fun _ _ _ h => ⟨rfl, h⟩⟩
theorem KeepA.trans {bm : Nat} {w w' w'' : World} (h : KeepA bm w w') (h' : KeepA bm w' w'') : KeepA bm w w'' := ⟨Nat.le_trans h.1 h'.1, fun g h1 h2 h3 => by
  obtain ⟨e1, n1⟩ := h.2 g h1 h2 h3
  obtain ⟨e2, n2⟩ := h'.2 g (Nat.lt_of_lt_of_le h1 h.1) h2 n1
  exact ⟨e2.trans e1, n2⟩⟩
theorem KeepA.below {bm : Nat} {w w' : World} (hm : bm < w.heap.size) (hb : Below w.heap.size w w') : KeepA bm w w' := ⟨hb.size, fun g hg _ hn => ⟨hb.block g hg, fun ⟨v, h1, h2⟩ => hn ⟨v, (hb.cell (p := ⟨bm, 5, none⟩) hm).symm.trans h1, h2⟩⟩⟩
theorem keepA_set {w W w1 : World} {bm : Nat} {v v' : Value} (hb : Below w.heap.size w W) (hc : w.cell? ⟨bm, 5, none⟩ = some v) (hg : W.grownBy w1 v.ownBlock) (hat : v'.ownBlock = v.ownBlock ∨ v'.ownBlock = some W.heap.size)
    (hset : (w1.setCell ⟨bm, 5, none⟩ v').cell? ⟨bm, 5, none⟩ = some v') : KeepA bm w (w1.setCell ⟨bm, 5, none⟩ v') := by
  refine ⟨Nat.le_trans hb.size (Nat.le_trans hg.size ((Below.refl 0 w1).setCell (p := ⟨bm, 5, none⟩) (Nat.zero_le _) v').size), fun g h1 h2 h3 => ⟨?_, ?_⟩⟩
  · rw [Below.heap_setCell w1 ⟨bm, 5, none⟩ v' g (fun e => h2 e), hg.block g (Nat.lt_of_lt_of_le h1 hb.size) (fun e => h3 ⟨v, hc, e.symm⟩), hb.block g h1]
  · rintro ⟨u, hu, ho⟩
    rw [hset] at hu
    injection hu with hu
    subst hu
    rcases hat with h | h
    · exact h3 ⟨v, hc, h.symm.trans ho⟩
    · rw [h] at ho
      injection ho with ho
      have := hb.size
      omega

set_option maxHeartbeats 400000 in
theorem pushK_any (w : World) (B bm : Nat) (env st : List Int) (v : Int) (hm : Mach w B bm env st) (hs : st.length ≤ 1000) :
    Calls Tryd.prog 69 #[.pointer (some ⟨bm, 0, none⟩), .int .i64 v] w fun e w' => e = .returned (.tuple #[]) ∧ Mach w' B bm env (v :: st) ∧ Below B w w' ∧ KeepA bm w w' := by
  obtain ⟨hB, he, A, c, hblk, hown⟩ := hm
  have hlt := hblk.lt
  have hc5 : w.cell? ⟨bm, 5, none⟩ = some (.slice A st.length c) := (hblk.cell 5).trans (mach_stack env _ he)
  obtain ⟨i0, hi, hz0, hz1, hz2⟩ := info_parts info_int
  have HE := Lib.hid he
  clear he
  go_enter Tryd.func69, Tryd.ntmps69
  go_wp2_with (at_builtin; refine wpList_append_own_at _ rfl (.tmp 8) (.tmp 10) 40 rfl B 3 i0 (.int .i64 0) 1 8 Tryd.underlying40 hi hz0 hz1 hz2 rfl (by decide) (.slice A st.length c) st.length (st.reverse.map (Value.int .i64)) rfl (hown.alloc _) ⟨w.heap.size, 0, none⟩ 1 1 [.int .i64 v] rfl rfl ?c1 ?c2 ?c3 ?c4 ?c5 ?c6)
  case c1 => exact cell_one_new _ _ _
  case c2 => intro u hu; simp at hu; subst hu; rfl
  case c3 => unfold maxLen; omega
  case c4 => omega
  case c5 => simp; omega
  case c6 =>
    intro v' w1 hown' hgrow _ hat
    obtain ⟨g, cap', rfl⟩ : ∃ g cap', v' = .slice (some ⟨g, 0, none⟩) (st.length + 1) cap' := by
      rcases hown'.2 with ⟨_, h⟩ | ⟨g, cap', _, h, _⟩
      · omega
      · exact ⟨g, cap', h⟩
    have hap := own_apart hown hblk (by decide)
    have hblk1 : Blk w1 bm 96 (machCells env (.slice A st.length c)) := (hblk.alloc _).grown hgrow (fun h => hap h.symm)
    have hk : w1.cell? ⟨bm, 5, none⟩ = some (.slice A st.length c) := (hblk1.cell 5).trans (mach_stack env _ HE.out)
    have hf := hblk1.thawed 5
    have hbel : Below B w w1 := (((Below.refl _ _).alloc (by omega) _)).grown hgrow (by simp; omega) (fun k h => (hown.lt k h).1)
    have hown2 := own_store (p := ⟨bm, 5, none⟩) hown' (own_apart hown' hblk1 (by decide)) (.slice (some ⟨g, 0, none⟩) (st.length + 1) cap')
    have hblk2 := hblk1.put 5 (.slice (some ⟨g, 0, none⟩) (st.length + 1) cap')
    have hbel2 := hbel.setCell (p := ⟨bm, 5, none⟩) hB (.slice (some ⟨g, 0, none⟩) (st.length + 1) cap')
    have hset : (w1.setCell ⟨bm, 5, none⟩ (.slice (some ⟨g, 0, none⟩) (st.length + 1) cap')).cell? ⟨bm, 5, none⟩ = some (.slice (some ⟨g, 0, none⟩) (st.length + 1) cap') := by
      have h := hblk2.cell 5
      rw [mach_put env _ _ HE.out] at h
      exact h.trans (mach_stack env _ HE.out)
    have hkp2 : KeepA bm w (w1.setCell ⟨bm, 5, none⟩ (.slice (some ⟨g, 0, none⟩) (st.length + 1) cap')) := keepA_set ((Below.refl _ _).alloc (Nat.le_refl _) _) hc5 hgrow (by simpa using hat) hset
    have H2 := Lib.hid hown2
    have H3 := Lib.hid hblk2
    have H4 := Lib.hid hkp2
    clear hkp2 hset hat
    clear hown2 hblk2 hgrow hown' hown hap
    go_wp2
    go_end0
    refine ⟨rfl, ⟨hB, HE.out, some ⟨g, 0, none⟩, cap', ?_, ?_⟩, hbel2, H4.out⟩
    · have h3 := H3.out
      rw [mach_put env _ _ HE.out] at h3
      exact h3
    · have h2 := H2.out
      simpa using h2
set_option maxHeartbeats 400000 in
theorem popK_some (w : World) (B bm : Nat) (env st : List Int) (v : Int) (hm : Mach w B bm env (v :: st)) (hs : st.length ≤ 1000) :
    Calls Tryd.prog 72 #[.pointer (some ⟨bm, 0, none⟩)] w fun e w' => e = .returned (.int .i64 v) ∧ Mach w' B bm env st ∧ Below B w w' ∧ KeepA bm w w' := by
  obtain ⟨hB, he, A, c, hblk, hown⟩ := hm
  have hlt := hblk.lt
  obtain ⟨g, rfl⟩ : ∃ g, A = some ⟨g, 0, none⟩ := by
    rcases hown.2 with ⟨_, h⟩ | ⟨g, cap', _, h, _⟩
    · simp at h
    · injection h with h1; exact ⟨g, h1⟩
  have hcap : st.length + 1 ≤ c := by
    rcases hown.2 with ⟨_, h⟩ | ⟨g, cap', _, h, _, _, h1, _⟩
    · simp at h
    · injection h with _ _ h3; simpa [h3] using h1
  have hc5 : w.cell? ⟨bm, 5, none⟩ = some (.slice (some ⟨g, 0, none⟩) (st.length + 1) c) := (hblk.cell 5).trans (mach_stack env _ he)
  have hcv : w.cell? ⟨g, st.length, none⟩ = some (.int .i64 v) := by
    have h := hown.cells (g := g) rfl st.length (.int .i64 v) (by simp)
    have hadd : (⟨g, 0, none⟩ : Addr).add st.length = ⟨g, st.length, none⟩ := by unfold Addr.add; split <;> simp_all
    rw [hadd] at h
    exact h
  have hf := hblk.thawed 5
  have hown1 := own_pop (n := st.length) (xs := st.reverse.map (Value.int .i64)) (x := .int .i64 v) (by simpa using hown)
  have H2 := Lib.hid (own_store (p := ⟨bm, 5, none⟩) hown1 (own_apart hown1 hblk (by decide)) (.slice (some ⟨g, 0, none⟩) st.length c))
  have H3 := Lib.hid (hblk.put 5 (.slice (some ⟨g, 0, none⟩) st.length c))
  have hset : (w.setCell ⟨bm, 5, none⟩ (.slice (some ⟨g, 0, none⟩) st.length c)).cell? ⟨bm, 5, none⟩ = some (.slice (some ⟨g, 0, none⟩) st.length c) := by
    have h := (hblk.put 5 (.slice (some ⟨g, 0, none⟩) st.length c)).cell 5
    rw [mach_put env _ _ he] at h
    exact h.trans (mach_stack env _ he)
  have H4 : Hid (KeepA bm w (w.setCell ⟨bm, 5, none⟩ (.slice (some ⟨g, 0, none⟩) st.length c))) := keepA_set (Below.refl _ _) hc5 (World.grownBy.refl w _) (.inl rfl) hset
  clear hset
  have HE := Lib.hid he
  clear he hown hown1
  go_enter Tryd.func72, Tryd.ntmps72
  go_wp2
  go_ret
  refine ⟨rfl, ⟨hB, HE.out, some ⟨g, 0, none⟩, c, ?_, ?_⟩, (Below.refl _ _).setCell (p := ⟨bm, 5, none⟩) hB _, H4.out⟩
  · have h3 := H3.out
    rw [mach_put env _ _ HE.out] at h3
    exact h3
  · exact H2.out

end Go.Proofs.YtfmhmnpmdjpmeaaDoor
