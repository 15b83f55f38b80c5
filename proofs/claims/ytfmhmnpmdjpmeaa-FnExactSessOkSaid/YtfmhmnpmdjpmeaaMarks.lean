/- Words for memory: a slice that reads as a list of pairs or of numbers, a block that is known whole; an env. -/
/- The laws' own helpers on slices of tokens: sizes, copies, comparison. -/
/- The laws' comparison of two slices of tokens. -/
/- The reference model's LevelEval; the laws' helpers on slices of numbers. -/
/- Slices that a call owns: read as lists, kept over other steps; the laws' marks upon them. -/
import Derived.Test.YtfmhmnpmdjpmeaaRows
import Derived.WalkKit
import Derived.WalkLawsBesides
import Derived.WalkSpells
import Derived.Deep.QuietTactic
import Derived.BigQuiet
import Derived.StillTailTactics
import Derived.Lib.Hide
import Derived.Recover

/- Plain functions on levels as lists of pairs of numbers: validity by heights, evaluation on a stack (its top first), and how the two hang together. Nothing of the program is imported. -/
namespace Go.Proofs.Ytfmhmnpmdjpmeaa.Lv

abbrev Tk := Int × Int

/-- one token alone is right -/
def tkOk (t : Tk) : Bool := decide (0 ≤ t.1) && decide (t.1 ≤ 4) && (decide (t.1 = 4) || decide (t.2 = 0)) && decide (0 ≤ t.2) && decide (t.2 < 5)

def takes (op : Int) : Int := if op = 1 then 1 else if op = 2 ∨ op = 3 then 2 else 0

/-- the height behind the tokens, if none of them fails -/
def hts : List Tk → Int → Option Int
  | [], n => some n
  | t :: r, n => if tkOk t = true ∧ takes t.1 ≤ n then hts r (n - takes t.1 + 1) else none

theorem hts_append (a b : List Tk) (n : Int) : hts (a ++ b) n = (hts a n).bind (hts b) := by
  induction a generalizing n with
  | nil => rfl
  | cons t r ih => simp only [List.cons_append, hts]; split <;> simp [ih]

def levelOk (l : List Tk) : Bool := decide (1 ≤ l.length) && decide (l.length ≤ 24) && decide (hts l 0 = some 1)

/-- one token on a stack, its top first -/
def step (env : List Int) (t : Tk) (st : List Int) : Option (List Int) :=
  if tkOk t = true then
    if t.1 = 0 then some (0 :: st)
    else if t.1 = 4 then some (env.getD t.2.toNat 0 :: st)
    else if t.1 = 1 then
      match st with
      | a :: s => some ((a + 1) :: s)
      | [] => none
    else
      match st with
      | b :: a :: s => some ((if t.1 = 3 ∧ b = 0 then 0 else max a b) :: s)
      | _ => none
  else none

def run (env : List Int) : List Tk → List Int → Option (List Int)
  | [], st => some st
  | t :: r, st => (step env t st).bind (run env r)

theorem tk_cases {t : Tk} (h : tkOk t = true) : t.1 = 0 ∨ t.1 = 1 ∨ t.1 = 2 ∨ t.1 = 3 ∨ t.1 = 4 := by
  simp [tkOk] at h; omega

theorem step_height (env : List Int) (t : Tk) (st : List Int) :
    (step env t st).map (fun s => (s.length : Int)) = if tkOk t = true ∧ takes t.1 ≤ st.length then some ((st.length : Int) - takes t.1 + 1) else none := by
  unfold step
  by_cases h : tkOk t = true
  · simp only [h, if_true, true_and]
    rcases tk_cases h with e | e | e | e | e
    · simp [e, takes]
    · rcases st with _ | ⟨a, s⟩ <;> simp [e, takes]
      omega
    · rcases st with _ | ⟨b, _ | ⟨a, s⟩⟩ <;> simp [e, takes]
      omega
    · rcases st with _ | ⟨b, _ | ⟨a, s⟩⟩ <;> simp [e, takes]
      omega
    · simp [e, takes]
  · simp [h]

theorem run_height (env : List Int) (l : List Tk) (st : List Int) : (run env l st).map (fun s => (s.length : Int)) = hts l st.length := by
  induction l generalizing st with
  | nil => rfl
  | cons t r ih =>
    simp only [run, hts]
    have hs := step_height env t st
    cases hst : step env t st with
    | none =>
      rw [hst] at hs
      by_cases hc : tkOk t = true ∧ takes t.1 ≤ st.length
      · rw [if_pos hc] at hs; cases hs
      · rw [if_neg hc]; rfl
    | some s =>
      rw [hst] at hs
      by_cases hc : tkOk t = true ∧ takes t.1 ≤ st.length
      · rw [if_pos hc] at hs ⊢
        simp only [Option.map_some, Option.some.injEq] at hs
        simp only [Option.bind_some]
        rw [ih, hs]
      · rw [if_neg hc] at hs; cases hs

/-- what LevelEval answers -/
def eval (env : List Int) (l : List Tk) : Option Int :=
  if levelOk l = true then
    match run env l [] with
    | some [v] => some v
    | _ => none
  else none

theorem ok_of_run {env : List Int} {l : List Tk} {v : Int} (h1 : 1 ≤ l.length) (h2 : l.length ≤ 24) (h : run env l [] = some [v]) : levelOk l = true := by
  have hr := run_height env l []
  rw [h] at hr
  simp at hr
  simp [levelOk, h1, h2, ← hr]

theorem eval_of_run {env : List Int} {l : List Tk} {v : Int} (h1 : 1 ≤ l.length) (h2 : l.length ≤ 24) (h : run env l [] = some [v]) : eval env l = some v := by
  simp [eval, ok_of_run h1 h2 h, h]

theorem hts_none_of_take {l : List Tk} {k : Nat} {n : Int} (h : hts (l.take k) n = none) : hts l n = none := by
  have := hts_append (l.take k) (l.drop k) n
  rw [List.take_append_drop] at this
  rw [this, h]; rfl
end Go.Proofs.Ytfmhmnpmdjpmeaa.Lv

namespace Go.Proofs.Ytfmhmnpmdjpmeaa
open Go.RowKit

/-- the slice value '.slice A n c' reads as the pairs l; its cells lie below block B -/
def TokR (w : World) (B : Nat) (A : Option Addr) (n : Nat) (l : List (Int × Int)) : Prop :=
  l.length = n ∧ (0 < n → ∃ b off, A = some ⟨b, off, none⟩ ∧ b < B ∧ ∀ k, k < n →
    w.cell? ⟨b, off + k * 2, none⟩ = some (.int .i64 (l.getD k (0, 0)).1) ∧ w.cell? ⟨b, off + k * 2 + 1, none⟩ = some (.int .i64 (l.getD k (0, 0)).2))

/-- the slice value '.slice A n c' reads as the numbers l; its cells lie below block B -/
def IntR (w : World) (B : Nat) (A : Option Addr) (n : Nat) (l : List Int) : Prop :=
  l.length = n ∧ (0 < n → ∃ b off, A = some ⟨b, off, none⟩ ∧ b < B ∧ ∀ k, k < n → w.cell? ⟨b, off + k, none⟩ = some (.int .i64 (l.getD k 0)))

section
variable {w w' : World} {B B' n : Nat} {A : Option Addr}
theorem TokR.keep {l : List (Int × Int)} (h : TokR w B A n l) (hk : ∀ p : Addr, p.block < B → w'.cell? p = w.cell? p) : TokR w' B A n l :=
  ⟨h.1, fun hn => by
    obtain ⟨b, off, e, hb, hc⟩ := h.2 hn
    exact ⟨b, off, e, hb, fun k hk' => by rw [hk _ (by exact hb), hk _ (by exact hb)]; exact hc k hk'⟩⟩
theorem TokR.below {l : List (Int × Int)} (h : TokR w B A n l) (hb : Below B w w') : TokR w' B A n l := h.keep fun _ hp => hb.cell hp
theorem TokR.more {l : List (Int × Int)} (h : TokR w B A n l) (hB : B ≤ B') : TokR w B' A n l :=
  ⟨h.1, fun hn => by
    obtain ⟨b, off, e, hb, hc⟩ := h.2 hn
    exact ⟨b, off, e, by omega, hc⟩⟩
theorem IntR.keep {l : List Int} (h : IntR w B A n l) (hk : ∀ p : Addr, p.block < B → w'.cell? p = w.cell? p) : IntR w' B A n l :=
  ⟨h.1, fun hn => by
    obtain ⟨b, off, e, hb, hc⟩ := h.2 hn
    exact ⟨b, off, e, hb, fun k hk' => by rw [hk _ (by exact hb)]; exact hc k hk'⟩⟩
theorem IntR.below {l : List Int} (h : IntR w B A n l) (hb : Below B w w') : IntR w' B A n l := h.keep fun _ hp => hb.cell hp
theorem IntR.more {l : List Int} (h : IntR w B A n l) (hB : B ≤ B') : IntR w B' A n l :=
  ⟨h.1, fun hn => by
    obtain ⟨b, off, e, hb, hc⟩ := h.2 hn
    exact ⟨b, off, e, by omega, hc⟩⟩
end

/-- block g is just the cells cs of element type t, none of them frozen -/
def Blk (w : World) (g : Nat) (t : TypeId) (cs : Array Value) : Prop := w.heap[g]? = some (.cells cs t (0, 0))

section
variable {w w' : World} {g : Nat} {t : TypeId} {cs : Array Value}
theorem Blk.lt (h : Blk w g t cs) : g < w.heap.size := (Array.getElem?_eq_some_iff.1 h).1
theorem Blk.cell (h : Blk w g t cs) (i : Nat) : w.cell? ⟨g, i, none⟩ = cs[i]? := cell_of_row w g i cs t (0, 0) h
theorem Blk.thawed (h : Blk w g t cs) (i : Nat) : w.frozen? ⟨g, i, none⟩ = false := by
  have h' : w.heap[g]? = some (.cells cs t (0, 0)) := h
  simp [World.frozen?, h']
theorem Blk.made (w : World) (t : TypeId) (cs : Array Value) : Blk (w.alloc (.cells cs t)) w.heap.size t cs := heap_alloc_new w _
theorem Blk.alloc (h : Blk w g t cs) (o : Obj) : Blk (w.alloc o) g t cs := (Below.heap_alloc w o g h.lt).trans h
theorem Blk.put (h : Blk w g t cs) (i : Nat) (u : Value) : Blk (w.setCell ⟨g, i, none⟩ u) g t (cs.setIfInBounds i u) := by
  have h' : w.heap[g]? = some (.cells cs t (0, 0)) := h
  show (w.setCell ⟨g, i, none⟩ u).heap[g]? = _
  simp [World.setCell, Array.getElem?_modify, h']
theorem Blk.other (h : Blk w g t cs) {p : Addr} (hp : g ≠ p.block) (u : Value) : Blk (w.setCell p u) g t cs := (Below.heap_setCell w p u g hp).trans h
theorem Blk.grown {row : Option Nat} (h : Blk w g t cs) (hb : w.grownBy w' row) (hg : some g ≠ row) : Blk w' g t cs := (hb.block g h.lt hg).trans h
theorem Blk.below {B : Nat} (h : Blk w g t cs) (hb : Below B w w') (hg : g < B) : Blk w' g t cs := (hb.block g hg).trans h
theorem Blk.apart {g' : Nat} {t' : TypeId} {cs' : Array Value} (h : Blk w g t cs) (h' : Blk w g' t' cs') (hne : t ≠ t') : g ≠ g' := by
  rintro rfl
  have e := Eq.trans (Eq.symm h) h'
  injection e with e
  injection e with _ e2
  exact hne e2
theorem own_apart {base : Nat} {e : TypeId} {size n : Nat} {v : Value} {xs : List Value} (h : w.ownsRow base e size v n xs) (hg : Blk w g t cs) (hne : e ≠ t) : v.ownBlock ≠ some g := by
  rcases h.2 with ⟨rfl, _⟩ | ⟨g', cap, cur, rfl, _, hh, _⟩
  · simp [Value.ownBlock]
  · intro he
    have hgg : g' = g := by simpa [Value.ownBlock] using he
    subst hgg
    exact Blk.apart (t := e) hh hg hne rfl
end

theorem own_blk {w : World} {base : Nat} {e : TypeId} {size n : Nat} {v : Value} {xs : List Value} (h : w.ownsRow base e size v n xs) (g : Nat) (hg : v.ownBlock = some g) : ∃ cs, Blk w g e cs := by
  rcases h.2 with ⟨rfl, _⟩ | ⟨g', cap, cur, rfl, _, hh, _⟩
  · simp [Value.ownBlock] at hg
  · have : g' = g := by simpa [Value.ownBlock] using hg
    subst this
    exact ⟨cur, hh⟩

theorem info_int : (Try.prog.info? 3).map (fun i => (i.zero, i.size, i.bytes)) = some (some (.int .i64 0), 1, 8) := by kernel_rfl

/-- a region that draws, whose first n operations only read: the draw said by its name -/
theorem region_tail {P : Program} {id : Nat} {Q : Exit → Act → World → Prop} {a : Act} {w : World} {l : List Oper} (n : Nat) (hm : P.follows .mixedOrders = true) (hB : Region.lexTailB .any l.toArray n = true)
    (h : wpStill P l.toArray w.drew (fun a' => wpList P l.toArray Q (l.drop n) a' w.drew) (l.take n) a) : (Code.region id l.toArray true).wp P Q a w :=
  wp_region_still_tail n hm hB h

theorem ret_bool {a b : Bool} (h : a = b) : Ending.returned (.bool a) = .returned (.bool b) := by rw [h]

/-- an env of five numbers in 0..1000 -/
def envOk (env : List Int) : Bool := decide (env.length = 5) && env.all fun x => decide (0 ≤ x) && decide (x ≤ 1000)

end Go.Proofs.Ytfmhmnpmdjpmeaa

namespace Go.Proofs.Ytfmhmnpmdjpmeaa
open Go.RowKit

/-- block g is a row of just n tokens, those of l -/
def TokOwn (w : World) (g n : Nat) (l : List (Int × Int)) : Prop :=
  l.length = n ∧ ∃ cs, Blk w g 110 cs ∧ cs.size = n * 2 ∧ ∀ k, k < n → cs[k * 2]? = some (.int .i64 (l.getD k (0, 0)).1) ∧ cs[k * 2 + 1]? = some (.int .i64 (l.getD k (0, 0)).2)

theorem TokOwn.reads {w : World} {g n : Nat} {l : List (Int × Int)} (h : TokOwn w g n l) : TokR w (g + 1) (some ⟨g, 0, none⟩) n l := by
  obtain ⟨hl, cs, hb, hs, hc⟩ := h
  refine ⟨hl, fun _ => ⟨g, 0, rfl, by omega, fun k hk => ?_⟩⟩
  rw [hb.cell, hb.cell, Nat.zero_add]
  exact hc k hk
theorem TokOwn.below {w w' : World} {g n B : Nat} {l : List (Int × Int)} (h : TokOwn w g n l) (hb : Below B w w') (hg : g < B) : TokOwn w' g n l := by
  obtain ⟨hl, cs, hblk, rest⟩ := h
  exact ⟨hl, cs, hblk.below hb hg, rest⟩

end Go.Proofs.Ytfmhmnpmdjpmeaa

namespace Go.Proofs.Ytfmhmnpmdjpmeaa
open Go.RowKit

/-- two lists of one length that agree up to k -/
def Agree {α : Type} (d : α) (k : Nat) (l m : List α) : Prop := ∀ j, j < k → l.getD j d = m.getD j d
theorem agree_all {α : Type} {d : α} {n : Nat} {l m : List α} (h1 : l.length = n) (h2 : m.length = n) (h : Agree d n l m) : l = m := by
  apply List.ext_getElem (by omega)
  intro i hi hj
  have := h i (by omega)
  simpa [List.getD_eq_getElem?_getD, List.getElem?_eq_getElem hi, List.getElem?_eq_getElem hj] using this
theorem agree_step {α : Type} {d : α} {k : Nat} {l m : List α} (h : Agree d k l m) (e : l.getD k d = m.getD k d) : Agree d (k + 1) l m := by
  intro j hj
  by_cases hjk : j = k
  · subst hjk; exact e
  · exact h j (by omega)

end Go.Proofs.Ytfmhmnpmdjpmeaa

namespace Go.Proofs.Ytfmhmnpmdjpmeaa
open Go.RowKit

/-- block g is a row of just n numbers, those of l -/
def IntOwn (w : World) (g n : Nat) (l : List Int) : Prop :=
  l.length = n ∧ ∃ cs, Blk w g 3 cs ∧ cs.size = n ∧ ∀ k, k < n → cs[k]? = some (.int .i64 (l.getD k 0))
theorem IntOwn.reads {w : World} {g n : Nat} {l : List Int} (h : IntOwn w g n l) : IntR w (g + 1) (some ⟨g, 0, none⟩) n l := by
  obtain ⟨hl, cs, hb, hs, hc⟩ := h
  refine ⟨hl, fun _ => ⟨g, 0, rfl, by omega, fun k hk => ?_⟩⟩
  rw [hb.cell, Nat.zero_add]
  exact hc k hk

/-- the row of numbers that is being filled: the first k of them are there -/
def FillI (w : World) (g n k : Nat) (l : List Int) (wr : World) : Prop :=
  Below w.heap.size w wr ∧ ∃ cs, Blk wr g 3 cs ∧ cs.size = n ∧ ∀ j, j < k → cs[j]? = some (.int .i64 (l.getD j 0))
theorem fillI_step {w wr : World} {n k : Nat} {l : List Int} {a : Int} (h : FillI w w.heap.size n k l wr) (hk : k < n) (ht : l.getD k 0 = a) :
    FillI w w.heap.size n (k + 1) l (wr.setCell ⟨w.heap.size, k, none⟩ (.int .i64 a)) := by
  obtain ⟨hbel, cs, hblk, hs, hc⟩ := h
  refine ⟨hbel.setCell (p := ⟨w.heap.size, k, none⟩) (Nat.le_refl _) _, _, hblk.put _ _, by simp [hs], ?_⟩
  intro j hj
  by_cases e : j = k
  · subst e
    rw [ht, Array.getElem?_setIfInBounds_self_of_lt (by omega)]
  · rw [Array.getElem?_setIfInBounds_ne (by omega)]
    exact hc j (by omega)

set_option maxHeartbeats 800000 in
theorem toIntS_any (w : World) (B : Nat) (A : Option Addr) (n c : Nat) (l : List Int) (hB : B ≤ w.heap.size) (hl : IntR w B A n l) (hn : n ≤ 1048576) :
    Calls Try.prog 10 #[.slice A n c] w fun e w' => e = .returned (.slice (some ⟨w.heap.size, 0, none⟩) n n) ∧ Below w.heap.size w w' ∧ IntOwn w' w.heap.size n l := by
  obtain ⟨i0, hi, hz0, hz1, hz2⟩ := info_parts info_int
  have hmk : ∀ wx, (Instr.makeSlice 23 (.int .i64 (n : Int)) (.int .i64 (n : Int))).run Try.prog wx = .ok (.slice (some ⟨wx.heap.size, 0, none⟩) n n) (wx.alloc (.cells (madeCells (Value.int .i64 0).cells n) 3)) := by
    intro wx
    have hr := run_make (P := Try.prog) wx 23 3 i0 _ Try.underlying23 hi hz0 .i64 .i64 n n (by omega) (by omega) (by rw [hz2]; omega) (by omega)
    simp only [Int.toNat_natCast, hz1, Nat.mul_one] at hr
    exact hr
  have hstart : FillI w w.heap.size n 0 l (w.alloc (.cells (madeCells (Value.int .i64 0).cells n) 3)) :=
    ⟨(Below.refl _ _).alloc (Nat.le_refl _) _, _, Blk.made _ _ _, by simp [madeCells], by intro j hj; omega⟩
  have HS := Lib.hid hstart
  clear hstart hi hz0 hz1 hz2
  go_enter Try.func10, Try.ntmps10
  go_wp2
  go_loopw [4] (fun i wr => ∃ k : Nat, k ≤ n ∧ i = .int .i64 k ∧ FillI w w.heap.size n k l wr) (fun i _ => n - (intOf i).toNat)
  case atStart => exact ⟨0, Nat.zero_le _, rfl, HS.out⟩
  case round =>
    obtain ⟨k, hk, rfl, hF⟩ := hrel
    by_cases hlt : k < n
    · obtain ⟨b, off, rfl, hb, hc⟩ := hl.2 (by omega)
      have c1 := hc k hlt
      obtain ⟨t, ht⟩ : ∃ t, l.getD k 0 = t := ⟨_, rfl⟩
      rw [ht] at c1
      have hbel := hF.1
      have k1 := (hbel.cell (p := ⟨b, off + k, none⟩) (by show b < _; omega)).trans c1
      have HT := Lib.hid ht
      have HN := Lib.hid (fillI_step hF hlt ht)
      obtain ⟨_, cs, hblk, hs, _⟩ := hF
      have f1 := hblk.thawed k
      obtain ⟨v1, e1⟩ : ∃ v1, wr.cell? ⟨w.heap.size, k, none⟩ = some v1 := ⟨_, (hblk.cell _).trans (Array.getElem?_eq_getElem (by omega))⟩
      clear c1 hc ht hblk hs
      go_wp2
      go_roundw
      case rel => exact ⟨k + 1, by omega, by go_num, HN.out⟩
      case measure => simp [intOf]; omega
    · obtain rfl : k = n := by omega
      obtain ⟨hbel, hcs⟩ := hF
      have HC := Lib.hid hcs
      clear hcs
      go_wp2
      go_ret
      exact ⟨rfl, hbel, hl.1, HC.out⟩

set_option maxRecDepth 100000 in
set_option maxHeartbeats 1000000 in
theorem eqIntS_any (w : World) (B : Nat) (A1 A2 : Option Addr) (n1 n2 c1 c2 : Nat) (l m : List Int) (hB : B ≤ w.heap.size) (hl : IntR w B A1 n1 l) (hm : IntR w B A2 n2 m)
    (hn1 : (n1 : Int) ≤ 140737488355328) (hn2 : (n2 : Int) ≤ 140737488355328) :
    Calls Try.prog 13 #[.slice A1 n1 c1, .slice A2 n2 c2] w fun e w' => e = .returned (.bool (decide (l = m))) ∧ Below w.heap.size w w' := by
  by_cases hne : n1 = n2
  · subst hne
    have en : ((n1 : Int) != (n1 : Int)) = false := by simp
    go_enter Try.func13, Try.ntmps13
    go_wp2
    go_loopw [5] (fun i wr => ∃ k : Nat, k ≤ n1 ∧ i = .int .i64 k ∧ Agree 0 k l m ∧ Below w.heap.size w wr) (fun i _ => n1 - (intOf i).toNat)
    case atStart => exact ⟨0, Nat.zero_le _, rfl, (fun j hj => absurd hj (by omega)), Below.refl _ _⟩
    case round =>
      obtain ⟨k, hk, rfl, hag, hbel⟩ := hrel
      have HG := Lib.hid hag
      clear hag
      by_cases hlt : k < n1
      · obtain ⟨b, off, rfl, hb, hc⟩ := hl.2 (by omega)
        have x1 := hc k hlt
        obtain ⟨b', off', rfl, hb', hc'⟩ := hm.2 (by omega)
        have y1 := hc' k hlt
        obtain ⟨t, ht⟩ : ∃ t, l.getD k 0 = t := ⟨_, rfl⟩
        obtain ⟨u, hu⟩ : ∃ u, m.getD k 0 = u := ⟨_, rfl⟩
        rw [ht] at x1
        rw [hu] at y1
        have HT := Lib.hid ht
        have HU := Lib.hid hu
        have k1 := (hbel.cell (p := ⟨b, off + k, none⟩) (by show b < _; omega)).trans x1
        have k3 := (hbel.cell (p := ⟨b', off' + k, none⟩) (by show b' < _; omega)).trans y1
        have HB := Lib.hid hbel.drew
        clear x1 y1 hc hc' ht hu hl hm
        by_cases heq : t = u
        · subst heq
          have HA : Hid (Agree 0 (k + 1) l m) := agree_step HG.out (by rw [HT.out, HU.out])
          go_wp2_with fail
          refine region_tail 8 (by kernel_rfl) (by kernel_rfl) ?_
          simp only [List.take_succ_cons, List.take_zero, List.drop_succ_cons, List.drop_zero]
          repeat still_step
          refine wpStill_nil ?_
          go_wp2
          go_roundw
          case rel => exact ⟨k + 1, by omega, by go_num, HA.out, HB.out⟩
          case measure => simp [intOf]; omega
        · have dne : (t != u) = true := by simpa using heq
          have HF : Hid (decide (l = m) = false) := by
            show _ = _
            rw [decide_eq_false_iff_not]
            intro h
            apply heq
            rw [← HT.out, ← HU.out, h]
          clear heq
          go_wp2_with fail
          refine region_tail 8 (by kernel_rfl) (by kernel_rfl) ?_
          simp only [List.take_succ_cons, List.take_zero, List.drop_succ_cons, List.drop_zero]
          repeat still_step
          refine wpStill_nil ?_
          go_wp2
          go_ret
          exact ⟨by rw [HF.out]; rfl, HB.out⟩
      · obtain rfl : k = n1 := by omega
        have HF : Hid (decide (l = m) = true) := by
          show _ = _
          rw [decide_eq_true_eq]
          exact agree_all hl.1 hm.1 HG.out
        clear hl hm
        go_wp2
        go_ret
        exact ⟨by rw [HF.out]; rfl, hbel⟩
  · have HF : Hid (decide (l = m) = false) := by
      show _ = _
      rw [decide_eq_false_iff_not]
      intro h
      apply hne
      rw [← hl.1, ← hm.1, h]
    have en : ((n1 : Int) != (n2 : Int)) = true := by simp; omega
    clear hl hm hne
    go_enter Try.func13, Try.ntmps13
    go_wp2
    go_ret
    exact ⟨by rw [HF.out]; rfl, Below.refl _ _⟩
end Go.Proofs.Ytfmhmnpmdjpmeaa

namespace Go.Proofs.Ytfmhmnpmdjpmeaa
open Go.RowKit

/-- the cells of a list of tokens -/
def tokCells (l : List (Int × Int)) : List Value := l.flatMap fun t => [.int .i64 t.1, .int .i64 t.2]
theorem tokCells_cons (t : Int × Int) (l : List (Int × Int)) : tokCells (t :: l) = .int .i64 t.1 :: .int .i64 t.2 :: tokCells l := rfl
theorem tokCells_len (l : List (Int × Int)) : (tokCells l).length = l.length * 2 := by
  induction l with
  | nil => rfl
  | cons t r ih => rw [tokCells_cons]; simp [ih]; omega
theorem tokCells_at (l : List (Int × Int)) (k : Nat) (hk : k < l.length) : (tokCells l)[k * 2]? = some (.int .i64 (l.getD k (0, 0)).1) ∧ (tokCells l)[k * 2 + 1]? = some (.int .i64 (l.getD k (0, 0)).2) := by
  induction l generalizing k with
  | nil => simp at hk
  | cons t r ih =>
    rw [tokCells_cons]
    cases k with
    | zero => exact ⟨rfl, rfl⟩
    | succ k =>
      have h := ih k (by simpa using hk)
      rw [show (k + 1) * 2 = k * 2 + 1 + 1 by omega]
      exact h

/-- a row of the call's own, of numbers -/
abbrev OwnI (w : World) (base : Nat) (A : Option Addr) (n c : Nat) (l : List Int) : Prop := w.ownsRow base 3 1 (.slice A n c) n (l.map (Value.int .i64))
/-- a row of the call's own, of tokens -/
abbrev OwnT (w : World) (base : Nat) (A : Option Addr) (n c : Nat) (l : List (Int × Int)) : Prop := w.ownsRow base 110 2 (.slice A n c) n (tokCells l)

theorem own_adds {g j : Nat} : (⟨g, 0, none⟩ : Addr).add j = ⟨g, j, none⟩ := by
  unfold Addr.add
  by_cases h : j = 0
  · subst h; rfl
  · rw [if_neg h]; simp

theorem OwnI.reads {w : World} {base : Nat} {A : Option Addr} {n c : Nat} {l : List Int} (h : OwnI w base A n c l) : IntR w w.heap.size A n l := by
  have hl : l.length = n := by have := h.1; simpa using this
  refine ⟨hl, fun hn => ?_⟩
  rcases h.2 with ⟨_, h0⟩ | ⟨g, cap, cur, hv, hb, hgg, h1, h2, h3, h4⟩
  · omega
  · injection hv with e1 e2 e3
    subst e1
    refine ⟨g, 0, rfl, (Array.getElem?_eq_some_iff.1 hgg).1, fun k hk => ?_⟩
    have := h.cells (g := g) rfl k (.int .i64 (l.getD k 0)) (by
      have hk' : k < l.length := by omega
      simp [List.getD_eq_getElem?_getD, List.getElem?_eq_getElem hk'])
    rw [own_adds] at this
    rw [Nat.zero_add]
    exact this

theorem OwnT.reads {w : World} {base : Nat} {A : Option Addr} {n c : Nat} {l : List (Int × Int)} (h : OwnT w base A n c l) : TokR w w.heap.size A n l := by
  have hl : l.length = n := by have := h.1; rw [tokCells_len] at this; omega
  refine ⟨hl, fun hn => ?_⟩
  rcases h.2 with ⟨_, h0⟩ | ⟨g, cap, cur, hv, hb, hgg, h1, h2, h3, h4⟩
  · omega
  · injection hv with e1 e2 e3
    subst e1
    refine ⟨g, 0, rfl, (Array.getElem?_eq_some_iff.1 hgg).1, fun k hk => ?_⟩
    have ht := tokCells_at l k (by omega)
    have h5 := h.cells (g := g) rfl (k * 2) _ ht.1
    have h6 := h.cells (g := g) rfl (k * 2 + 1) _ ht.2
    rw [own_adds] at h5 h6
    rw [Nat.zero_add]
    exact ⟨h5, h6⟩

/-- an owned row below B is kept where all below B is -/
theorem own_below {w w' : World} {B base : Nat} {e : TypeId} {size n : Nat} {v : Value} {xs : List Value} (h : w.ownsRow base e size v n xs) (hb : Below B w w') (hB : ∀ k, v.ownBlock = some k → k < B) : w'.ownsRow base e size v n xs := by
  refine ⟨h.1, ?_⟩
  rcases h.2 with hn | ⟨g, cap, cur, rfl, hbg, hgg, rest⟩
  · exact .inl hn
  · exact .inr ⟨g, cap, cur, rfl, hbg, (hb.block g (hB g rfl)).trans hgg, rest⟩
theorem own_below' {w w' : World} {base : Nat} {e : TypeId} {size n : Nat} {v : Value} {xs : List Value} (h : w.ownsRow base e size v n xs) (hb : Below w.heap.size w w') : w'.ownsRow base e size v n xs :=
  own_below h hb (fun k hk => (h.lt k hk).2)
theorem own_base {w : World} {base base' : Nat} {e : TypeId} {size n : Nat} {v : Value} {xs : List Value} (h : w.ownsRow base e size v n xs) (hb : base' ≤ base) : w.ownsRow base' e size v n xs := by
  refine ⟨h.1, ?_⟩
  rcases h.2 with hn | ⟨g, cap, cur, rfl, hbg, rest⟩
  · exact .inl hn
  · exact .inr ⟨g, cap, cur, rfl, by omega, rest⟩

end Go.Proofs.Ytfmhmnpmdjpmeaa
