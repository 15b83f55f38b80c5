/- Words for memory: a slice that reads as a list of pairs or of numbers, a block that is known whole; an env. -/
/- The laws' own helpers on slices of tokens: sizes, copies, comparison. -/
import Derived.Test.YtfmhmnpmdjpmeaaDoorRows
import Derived.WalkKit
import Derived.WalkLawsBesides
import Derived.WalkSpells
import Derived.Deep.QuietTactic
import Derived.BigQuiet
import Derived.StillTailTactics
import Derived.Lib.Hide
import Derived.Recover

/- Plain functions on levels as lists of pairs of numbers: validity by heights, evaluation on a stack (its top first), and how the two hang together. Nothing of the program is imported. -/
namespace Go.Proofs.YtfmhmnpmdjpmeaaDoor.Lv

abbrev Tk := Int × Int

/-- one token alone is right -/
def tkOk (t : Tk) : Bool := decide (0 ≤ t.1) && decide (t.1 ≤ 4) && (decide (t.1 = 4) || decide (t.2 = 0)) && decide (0 ≤ t.2) && decide (t.2 < 5)

def takes (op : Int) : Int := if op = 1 then 1 else if op = 2 ∨ op = 3 then 2 else 0

theorem takes_bd (op : Int) : 0 ≤ takes op ∧ takes op ≤ 2 := by
  unfold takes; split <;> (try split) <;> omega

/-- the height behind the tokens, if none of them fails -/
def hts : List Tk → Int → Option Int
  | [], n => some n
  | t :: r, n => if tkOk t = true ∧ takes t.1 ≤ n then hts r (n - takes t.1 + 1) else none

theorem hts_append (a b : List Tk) (n : Int) : hts (a ++ b) n = (hts a n).bind (hts b) := by
  induction a generalizing n with
  | nil => rfl
  | cons t r ih => simp only [List.cons_append, hts]; split <;> simp [ih]

def levelOk (l : List Tk) : Bool := decide (1 ≤ l.length) && decide (l.length ≤ 24) && decide (hts l 0 = some 1)

/-- one token on a stack, its top first -/
def step (env : List Int) (t : Tk) (st : List Int) : Option (List Int) :=
  if tkOk t = true then
    if t.1 = 0 then some (0 :: st)
    else if t.1 = 4 then some (env.getD t.2.toNat 0 :: st)
    else if t.1 = 1 then
      match st with
      | a :: s => some ((a + 1) :: s)
      | [] => none
    else
      match st with
      | b :: a :: s => some ((if t.1 = 3 ∧ b = 0 then 0 else max a b) :: s)
      | _ => none
  else none

def run (env : List Int) : List Tk → List Int → Option (List Int)
  | [], st => some st
  | t :: r, st => (step env t st).bind (run env r)

theorem run_append (env : List Int) (a b : List Tk) (st : List Int) : run env (a ++ b) st = (run env a st).bind (run env b) := by
  induction a generalizing st with
  | nil => rfl
  | cons t r ih =>
    simp only [List.cons_append, run]
    cases step env t st with
    | none => rfl
    | some s => simp [ih]

theorem tk_cases {t : Tk} (h : tkOk t = true) : t.1 = 0 ∨ t.1 = 1 ∨ t.1 = 2 ∨ t.1 = 3 ∨ t.1 = 4 := by
  simp [tkOk] at h; omega

theorem step_height (env : List Int) (t : Tk) (st : List Int) :
    (step env t st).map (fun s => (s.length : Int)) = if tkOk t = true ∧ takes t.1 ≤ st.length then some ((st.length : Int) - takes t.1 + 1) else none := by
  unfold step
  by_cases h : tkOk t = true
  · simp only [h, if_true, true_and]
    rcases tk_cases h with e | e | e | e | e
    · simp [e, takes]
    · rcases st with _ | ⟨a, s⟩ <;> simp [e, takes]
      omega
    · rcases st with _ | ⟨b, _ | ⟨a, s⟩⟩ <;> simp [e, takes]
      omega
    · rcases st with _ | ⟨b, _ | ⟨a, s⟩⟩ <;> simp [e, takes]
      omega
    · simp [e, takes]
  · simp [h]

theorem run_height (env : List Int) (l : List Tk) (st : List Int) : (run env l st).map (fun s => (s.length : Int)) = hts l st.length := by
  induction l generalizing st with
  | nil => rfl
  | cons t r ih =>
    simp only [run, hts]
    have hs := step_height env t st
    cases hst : step env t st with
    | none =>
      rw [hst] at hs
      by_cases hc : tkOk t = true ∧ takes t.1 ≤ st.length
      · rw [if_pos hc] at hs; cases hs
      · rw [if_neg hc]; rfl
    | some s =>
      rw [hst] at hs
      by_cases hc : tkOk t = true ∧ takes t.1 ≤ st.length
      · rw [if_pos hc] at hs ⊢
        simp only [Option.map_some, Option.some.injEq] at hs
        simp only [Option.bind_some]
        rw [ih, hs]
      · rw [if_neg hc] at hs; cases hs

/-- what LevelEval answers -/
def eval (env : List Int) (l : List Tk) : Option Int :=
  if levelOk l = true then
    match run env l [] with
    | some [v] => some v
    | _ => none
  else none

theorem run_of_ok {env : List Int} {l : List Tk} (h : levelOk l = true) : ∃ v, run env l [] = some [v] := by
  simp only [levelOk, Bool.and_eq_true, decide_eq_true_eq] at h
  have hr := run_height env l []
  simp only [List.length_nil, Int.ofNat_zero] at hr
  rw [h.2] at hr
  cases hq : run env l [] with
  | none => rw [hq] at hr; cases hr
  | some s =>
    rw [hq] at hr
    simp only [Option.map_some, Option.some.injEq] at hr
    match s, hr with
    | [v], _ => exact ⟨v, rfl⟩

theorem ok_of_run {env : List Int} {l : List Tk} {v : Int} (h1 : 1 ≤ l.length) (h2 : l.length ≤ 24) (h : run env l [] = some [v]) : levelOk l = true := by
  have hr := run_height env l []
  rw [h] at hr
  simp at hr
  simp [levelOk, h1, h2, ← hr]

theorem eval_of_run {env : List Int} {l : List Tk} {v : Int} (h1 : 1 ≤ l.length) (h2 : l.length ≤ 24) (h : run env l [] = some [v]) : eval env l = some v := by
  simp [eval, ok_of_run h1 h2 h, h]

/-- the numbers on the stack stay small -/
theorem step_bd {env : List Int} {t : Tk} {st st' : List Int} {M : Int} (hM : 0 ≤ M) (he : ∀ x ∈ env, 0 ≤ x ∧ x ≤ M) (hs : ∀ x ∈ st, 0 ≤ x ∧ x ≤ M) (h : step env t st = some st') :
    ∀ x ∈ st', 0 ≤ x ∧ x ≤ M + 1 := by
  unfold step at h
  split at h
  · split at h
    · cases h; intro x hx; rcases List.mem_cons.1 hx with rfl | hx
      · omega
      · have := hs x hx; omega
    · split at h
      · cases h; intro x hx; rcases List.mem_cons.1 hx with rfl | hx
        · rw [List.getD_eq_getElem?_getD]
          cases hg : env[t.2.toNat]? with
          | none => simp; omega
          | some y => have := he y (List.mem_of_getElem? hg); simp; omega
        · have := hs x hx; omega
      · split at h
        · split at h
          · cases h; rename_i a s; intro x hx; rcases List.mem_cons.1 hx with rfl | hx
            · have := hs a (by simp); omega
            · have := hs x (by simp [hx]); omega
          · cases h
        · split at h
          · cases h; rename_i b a s; intro x hx; rcases List.mem_cons.1 hx with rfl | hx
            · have h1 := hs a (by simp)
              have h2 := hs b (by simp)
              split <;> omega
            · have := hs x (by simp [hx]); omega
          · cases h
  · cases h

theorem step_len {env : List Int} {t : Tk} {st st' : List Int} (h : step env t st = some st') : st'.length ≤ st.length + 1 := by
  have hs := step_height env t st
  rw [h] at hs
  have hb := takes_bd t.1
  split at hs
  · simp at hs; omega
  · cases hs

theorem run_len {env : List Int} {l : List Tk} {st : List Int} (h : run env l [] = some st) : st.length ≤ l.length := by
  have H : ∀ (l : List Tk) (s st : List Int), run env l s = some st → st.length ≤ s.length + l.length := by
    intro l
    induction l with
    | nil => intro s st h; cases h; simp
    | cons t r ih =>
      intro s st h
      simp only [run] at h
      cases hs : step env t s with
      | none => rw [hs] at h; cases h
      | some s' =>
        rw [hs] at h
        have h1 := ih s' st h
        have h2 := step_len hs
        simp
        omega
  simpa using H l [] st h

theorem run_take_succ (env : List Int) (l : List Tk) (k : Nat) (hk : k < l.length) (st : List Int) :
    run env (l.take (k + 1)) st = (run env (l.take k) st).bind (step env (l.getD k (0, 0))) := by
  rw [List.take_succ_eq_append_getElem hk, run_append]
  congr 1
  funext s
  simp only [run, List.getD_eq_getElem?_getD, List.getElem?_eq_getElem hk, Option.getD_some]
  cases step env l[k] s <;> rfl

theorem hts_take_succ (l : List Tk) (k : Nat) (hk : k < l.length) (n : Int) :
    hts (l.take (k + 1)) n = (hts (l.take k) n).bind (hts [l.getD k (0, 0)]) := by
  rw [List.take_succ_eq_append_getElem hk, hts_append]
  simp [List.getD_eq_getElem?_getD, List.getElem?_eq_getElem hk]

theorem run_none_of_take {env : List Int} {l : List Tk} {k : Nat} {st : List Int} (h : run env (l.take k) st = none) : run env l st = none := by
  have := run_append env (l.take k) (l.drop k) st
  rw [List.take_append_drop] at this
  rw [this, h]; rfl

theorem hts_none_of_take {l : List Tk} {k : Nat} {n : Int} (h : hts (l.take k) n = none) : hts l n = none := by
  have := hts_append (l.take k) (l.drop k) n
  rw [List.take_append_drop] at this
  rw [this, h]; rfl
end Go.Proofs.YtfmhmnpmdjpmeaaDoor.Lv

namespace Go.Proofs.YtfmhmnpmdjpmeaaDoor
open Go.RowKit

/-- the slice value '.slice A n c' reads as the pairs l; its cells lie below block B -/
def TokR (w : World) (B : Nat) (A : Option Addr) (n : Nat) (l : List (Int × Int)) : Prop :=
  l.length = n ∧ (0 < n → ∃ b off, A = some ⟨b, off, none⟩ ∧ b < B ∧ ∀ k, k < n →
    w.cell? ⟨b, off + k * 2, none⟩ = some (.int .i64 (l.getD k (0, 0)).1) ∧ w.cell? ⟨b, off + k * 2 + 1, none⟩ = some (.int .i64 (l.getD k (0, 0)).2))

/-- the slice value '.slice A n c' reads as the numbers l; its cells lie below block B -/
def IntR (w : World) (B : Nat) (A : Option Addr) (n : Nat) (l : List Int) : Prop :=
  l.length = n ∧ (0 < n → ∃ b off, A = some ⟨b, off, none⟩ ∧ b < B ∧ ∀ k, k < n → w.cell? ⟨b, off + k, none⟩ = some (.int .i64 (l.getD k 0)))

section
variable {w w' : World} {B B' n : Nat} {A : Option Addr}
theorem TokR.keep {l : List (Int × Int)} (h : TokR w B A n l) (hk : ∀ p : Addr, p.block < B → w'.cell? p = w.cell? p) : TokR w' B A n l :=
  ⟨h.1, fun hn => by
    obtain ⟨b, off, e, hb, hc⟩ := h.2 hn
    exact ⟨b, off, e, hb, fun k hk' => by rw [hk _ (by exact hb), hk _ (by exact hb)]; exact hc k hk'⟩⟩
theorem TokR.below {l : List (Int × Int)} (h : TokR w B A n l) (hb : Below B w w') : TokR w' B A n l := h.keep fun _ hp => hb.cell hp
theorem TokR.more {l : List (Int × Int)} (h : TokR w B A n l) (hB : B ≤ B') : TokR w B' A n l :=
  ⟨h.1, fun hn => by
    obtain ⟨b, off, e, hb, hc⟩ := h.2 hn
    exact ⟨b, off, e, by omega, hc⟩⟩
theorem IntR.keep {l : List Int} (h : IntR w B A n l) (hk : ∀ p : Addr, p.block < B → w'.cell? p = w.cell? p) : IntR w' B A n l :=
  ⟨h.1, fun hn => by
    obtain ⟨b, off, e, hb, hc⟩ := h.2 hn
    exact ⟨b, off, e, hb, fun k hk' => by rw [hk _ (by exact hb)]; exact hc k hk'⟩⟩
theorem IntR.below {l : List Int} (h : IntR w B A n l) (hb : Below B w w') : IntR w' B A n l := h.keep fun _ hp => hb.cell hp
theorem IntR.more {l : List Int} (h : IntR w B A n l) (hB : B ≤ B') : IntR w B' A n l :=
  ⟨h.1, fun hn => by
    obtain ⟨b, off, e, hb, hc⟩ := h.2 hn
    exact ⟨b, off, e, by omega, hc⟩⟩
end

/-- block g is just the cells cs of element type t, none of them frozen -/
def Blk (w : World) (g : Nat) (t : TypeId) (cs : Array Value) : Prop := w.heap[g]? = some (.cells cs t (0, 0))

section
variable {w w' : World} {g : Nat} {t : TypeId} {cs : Array Value}
theorem Blk.lt (h : Blk w g t cs) : g < w.heap.size := (Array.getElem?_eq_some_iff.1 h).1
theorem Blk.cell (h : Blk w g t cs) (i : Nat) : w.cell? ⟨g, i, none⟩ = cs[i]? := cell_of_row w g i cs t (0, 0) h
theorem Blk.thawed (h : Blk w g t cs) (i : Nat) : w.frozen? ⟨g, i, none⟩ = false := by
  have h' : w.heap[g]? = some (.cells cs t (0, 0)) := h
  simp [World.frozen?, h']
theorem Blk.made (w : World) (t : TypeId) (cs : Array Value) : Blk (w.alloc (.cells cs t)) w.heap.size t cs := heap_alloc_new w _
theorem Blk.alloc (h : Blk w g t cs) (o : Obj) : Blk (w.alloc o) g t cs := (Below.heap_alloc w o g h.lt).trans h
theorem Blk.put (h : Blk w g t cs) (i : Nat) (u : Value) : Blk (w.setCell ⟨g, i, none⟩ u) g t (cs.setIfInBounds i u) := by
  have h' : w.heap[g]? = some (.cells cs t (0, 0)) := h
  show (w.setCell ⟨g, i, none⟩ u).heap[g]? = _
  simp [World.setCell, Array.getElem?_modify, h']
theorem Blk.grown {row : Option Nat} (h : Blk w g t cs) (hb : w.grownBy w' row) (hg : some g ≠ row) : Blk w' g t cs := (hb.block g h.lt hg).trans h
theorem Blk.below {B : Nat} (h : Blk w g t cs) (hb : Below B w w') (hg : g < B) : Blk w' g t cs := (hb.block g hg).trans h
theorem Blk.apart {g' : Nat} {t' : TypeId} {cs' : Array Value} (h : Blk w g t cs) (h' : Blk w g' t' cs') (hne : t ≠ t') : g ≠ g' := by
  rintro rfl
  have e := Eq.trans (Eq.symm h) h'
  injection e with e
  injection e with _ e2
  exact hne e2
theorem own_apart {base : Nat} {e : TypeId} {size n : Nat} {v : Value} {xs : List Value} (h : w.ownsRow base e size v n xs) (hg : Blk w g t cs) (hne : e ≠ t) : v.ownBlock ≠ some g := by
  rcases h.2 with ⟨rfl, _⟩ | ⟨g', cap, cur, rfl, _, hh, _⟩
  · simp [Value.ownBlock]
  · intro he
    have hgg : g' = g := by simpa [Value.ownBlock] using he
    subst hgg
    exact Blk.apart (t := e) hh hg hne rfl
end

/-- a store into another block leaves an owned row as it is -/
theorem own_store {w : World} {base : Nat} {e : TypeId} {size n : Nat} {v : Value} {xs : List Value} (h : w.ownsRow base e size v n xs) {p : Addr} (hp : v.ownBlock ≠ some p.block) (u : Value) :
    (w.setCell p u).ownsRow base e size v n xs := by
  refine ⟨h.1, ?_⟩
  rcases h.2 with hn | ⟨g, cap, cur, rfl, hb, hgg, rest⟩
  · exact .inl hn
  · refine .inr ⟨g, cap, cur, rfl, hb, ?_, rest⟩
    rw [Below.heap_setCell w p u g (by intro he; subst he; exact hp rfl)]
    exact hgg

theorem own_blk {w : World} {base : Nat} {e : TypeId} {size n : Nat} {v : Value} {xs : List Value} (h : w.ownsRow base e size v n xs) (g : Nat) (hg : v.ownBlock = some g) : ∃ cs, Blk w g e cs := by
  rcases h.2 with ⟨rfl, _⟩ | ⟨g', cap, cur, rfl, _, hh, _⟩
  · simp [Value.ownBlock] at hg
  · have : g' = g := by simpa [Value.ownBlock] using hg
    subst this
    exact ⟨cur, hh⟩

theorem info_int : (Tryd.prog.info? 3).map (fun i => (i.zero, i.size, i.bytes)) = some (some (.int .i64 0), 1, 8) := by kernel_rfl

/-- a region that draws, whose first n operations only read: the draw said by its name -/
theorem region_tail {P : Program} {id : Nat} {Q : Exit → Act → World → Prop} {a : Act} {w : World} {l : List Oper} (n : Nat) (hm : P.follows .mixedOrders = true) (hB : Region.lexTailB .any l.toArray n = true)
    (h : wpStill P l.toArray w.drew (fun a' => wpList P l.toArray Q (l.drop n) a' w.drew) (l.take n) a) : (Code.region id l.toArray true).wp P Q a w :=
  wp_region_still_tail n hm hB h

theorem ret_int {k : IntKind} {a b : Int} (h : a = b) : Ending.returned (.int k a) = .returned (.int k b) := by rw [h]
theorem ret_bool {a b : Bool} (h : a = b) : Ending.returned (.bool a) = .returned (.bool b) := by rw [h]

/-- an env of five numbers in 0..1000 -/
def envOk (env : List Int) : Bool := decide (env.length = 5) && env.all fun x => decide (0 ≤ x) && decide (x ≤ 1000)

set_option maxHeartbeats 800000 in
theorem envOk_any (w : World) (B : Nat) (A : Option Addr) (n c : Nat) (env : List Int) (hR : IntR w B A n env) (hn : (n : Int) ≤ 140737488355328) :
    Calls Tryd.prog 67 #[.slice A n c] w fun e w' => e = .returned (.bool (envOk env)) ∧ w = w' := by
  by_cases h5 : n = 5
  · subst h5
    obtain ⟨hlen, hc⟩ := hR
    obtain ⟨b, off, rfl, hb, hc⟩ := hc (by omega)
    have HL := Lib.hid hlen
    clear hlen
    go_enter Tryd.func67, Tryd.ntmps67
    go_wp2
    go_loop [10] (fun i => ∃ k : Nat, k ≤ 5 ∧ i = .int .i64 k ∧ (env.take k).all (fun x => decide (0 ≤ x) && decide (x ≤ 1000)) = true) (fun i => 5 - (intOf i).toNat)
    case atStart => exact ⟨0, by omega, rfl, by simp⟩
    case round =>
      obtain ⟨k, hk, rfl, hall⟩ := hrel
      by_cases hlt : k < 5
      · have hcell := hc k hlt
        have hall2 : (env.take (k + 1)).all (fun x => decide (0 ≤ x) && decide (x ≤ 1000)) = (decide (0 ≤ env.getD k 0) && decide (env.getD k 0 ≤ 1000)) := by
          have hl := HL.out
          rw [List.take_succ_eq_append_getElem (by omega), List.all_append, hall]
          simp [List.getD_eq_getElem?_getD, List.getElem?_eq_getElem (show k < env.length by omega)]
        have HA := Lib.hid hall2
        generalize env.getD k 0 = v at hcell HA
        clear hall hall2 hc
        by_cases hv : 0 ≤ v ∧ v ≤ 1000
        · obtain ⟨hv0, hv1⟩ := hv
          go_wp2
          go_round
          case rel => exact ⟨k + 1, by omega, by go_num, by rw [HA.out]; simp; omega⟩
          case measure => simp [intOf]; omega
        · have HF : Hid (envOk env = false) := by
            have h := HA.out
            show envOk env = false
            rw [Bool.eq_false_iff]
            intro hk
            simp only [envOk, Bool.and_eq_true, List.all_eq_true] at hk
            have h2 : (env.take (k + 1)).all (fun x => decide (0 ≤ x) && decide (x ≤ 1000)) = true := by
              rw [List.all_eq_true]; intro x hx; simpa using hk.2 x (List.mem_of_mem_take hx)
            rw [h] at h2
            simp at h2
            omega
          by_cases hv0 : v < 0
          · go_wp2
            go_ret
            exact ⟨by rw [HF.out]; rfl, rfl⟩
          · have hv1 : 1000 < v := by omega
            clear hv
            go_wp2
            go_ret
            exact ⟨by rw [HF.out]; rfl, rfl⟩
      · have HF : Hid (envOk env = true) := by
          show envOk env = true
          rw [List.take_of_length_le (by rw [HL.out]; omega)] at hall
          simp only [envOk, hall, HL.out]; rfl
        clear hall hc
        go_wp2
        go_ret
        exact ⟨by rw [HF.out]; rfl, rfl⟩
  · have HF : Hid (envOk env = false) := by
      show envOk env = false
      simp [envOk, hR.1, h5]
    have hne : ((n : Int) != 5) = true := by simp; omega
    clear hR
    go_enter Tryd.func67, Tryd.ntmps67
    go_wp2
    go_ret
    exact ⟨by rw [HF.out]; rfl, rfl⟩

theorem envOk_mem {env : List Int} (h : envOk env = true) : env.length = 5 ∧ ∀ x ∈ env, 0 ≤ x ∧ x ≤ 1000 := by
  simp only [envOk, Bool.and_eq_true, decide_eq_true_eq, List.all_eq_true] at h
  exact h

end Go.Proofs.YtfmhmnpmdjpmeaaDoor

namespace Go.Proofs.YtfmhmnpmdjpmeaaDoor
open Go.RowKit

set_option maxHeartbeats 400000 in
theorem szTokS_any (A : Option Addr) (n c : Nat) (left : Int) (w : World) (h0 : 0 ≤ left) (h1 : left ≤ 1048576) (hn : (n : Int) ≤ 9223372036854775807) :
    Calls Tryd.prog 12 #[.slice A n c, .int .i64 left] w fun e w' => e = .returned (.int .i64 (if left < n then -1 else left - n)) ∧ w = w' := by
  go_enter Tryd.func12, Tryd.ntmps12
  go_wp2
  all_goals go_ret
  · exact ⟨rfl, rfl⟩
  · exact ⟨rfl, rfl⟩

set_option maxHeartbeats 400000 in
theorem toTok_any (a b : Int) (w : World) :
    Calls Tryd.prog 55 #[.agg #[.int .i64 a, .int .i64 b]] w fun e w' => e = .returned (.agg #[.int .i64 a, .int .i64 b]) ∧ Below w.heap.size w w' := by
  go_enter Tryd.func55, Tryd.ntmps55
  go_wp2
  exact bodyPost_ret (v := .agg #[.int .i64 a, .int .i64 b]) (by simp [results, Tryd.results55, go_sem]) rfl ⟨rfl, (((Below.refl _ _).alloc (Nat.le_refl _) _).alloc (by simp) _).alloc (by simp; omega) _⟩

/-- block g is a row of just n tokens, those of l -/
def TokOwn (w : World) (g n : Nat) (l : List (Int × Int)) : Prop :=
  l.length = n ∧ ∃ cs, Blk w g 70 cs ∧ cs.size = n * 2 ∧ ∀ k, k < n → cs[k * 2]? = some (.int .i64 (l.getD k (0, 0)).1) ∧ cs[k * 2 + 1]? = some (.int .i64 (l.getD k (0, 0)).2)

theorem TokOwn.reads {w : World} {g n : Nat} {l : List (Int × Int)} (h : TokOwn w g n l) : TokR w (g + 1) (some ⟨g, 0, none⟩) n l := by
  obtain ⟨hl, cs, hb, hs, hc⟩ := h
  refine ⟨hl, fun _ => ⟨g, 0, rfl, by omega, fun k hk => ?_⟩⟩
  rw [hb.cell, hb.cell, Nat.zero_add]
  exact hc k hk
theorem TokOwn.below {w w' : World} {g n B : Nat} {l : List (Int × Int)} (h : TokOwn w g n l) (hb : Below B w w') (hg : g < B) : TokOwn w' g n l := by
  obtain ⟨hl, cs, hblk, rest⟩ := h
  exact ⟨hl, cs, hblk.below hb hg, rest⟩

theorem info_tok : (Tryd.prog.info? 70).map (fun i => (i.zero, i.size, i.bytes)) = some (some (.agg #[.int .i64 0, .int .i64 0]), 2, 16) := by kernel_rfl

/-- the row of tokens that is being filled: the first k of them are there -/
def Filling (w : World) (g n k : Nat) (l : List (Int × Int)) (wr : World) : Prop :=
  Below w.heap.size w wr ∧ ∃ cs, Blk wr g 70 cs ∧ cs.size = n * 2 ∧ ∀ j, j < k → cs[j * 2]? = some (.int .i64 (l.getD j (0, 0)).1) ∧ cs[j * 2 + 1]? = some (.int .i64 (l.getD j (0, 0)).2)

theorem filling_step {w wr w1 : World} {n k : Nat} {l : List (Int × Int)} {a b : Int} (h : Filling w w.heap.size n k l wr) (hb : Below wr.heap.size wr w1) (hk : k < n) (ht : l.getD k (0, 0) = (a, b)) :
    Filling w w.heap.size n (k + 1) l ((w1.setCell ⟨w.heap.size, k * 2, none⟩ (.int .i64 a)).setCell ⟨w.heap.size, k * 2 + 1, none⟩ (.int .i64 b)) := by
  obtain ⟨hbel, cs, hblk, hs, hc⟩ := h
  have hblk1 := hblk.below hb hblk.lt
  refine ⟨((hbel.trans (hb.mono hbel.size)).setCell (p := ⟨w.heap.size, k * 2, none⟩) (Nat.le_refl _) _).setCell (p := ⟨w.heap.size, k * 2 + 1, none⟩) (Nat.le_refl _) _, _, (hblk1.put _ _).put _ _, by simp [hs], ?_⟩
  intro j hj
  by_cases e : j = k
  · subst e
    rw [ht]
    constructor
    · rw [Array.getElem?_setIfInBounds_ne (by omega), Array.getElem?_setIfInBounds_self_of_lt (by omega)]
    · rw [Array.getElem?_setIfInBounds_self_of_lt (by simp; omega)]
  · obtain ⟨x, y⟩ := hc j (by omega)
    constructor
    · rw [Array.getElem?_setIfInBounds_ne (by omega), Array.getElem?_setIfInBounds_ne (by omega)]; exact x
    · rw [Array.getElem?_setIfInBounds_ne (by omega), Array.getElem?_setIfInBounds_ne (by omega)]; exact y

set_option maxHeartbeats 800000 in
theorem toTokS_any (w : World) (B : Nat) (A : Option Addr) (n c : Nat) (l : List (Int × Int)) (hB : B ≤ w.heap.size) (hl : TokR w B A n l) (hn : n ≤ 1048576) :
    Calls Tryd.prog 15 #[.slice A n c] w fun e w' => e = .returned (.slice (some ⟨w.heap.size, 0, none⟩) n n) ∧ Below w.heap.size w w' ∧ TokOwn w' w.heap.size n l := by
  obtain ⟨i0, hi, hz0, hz1, hz2⟩ := info_parts info_tok
  have hmk : ∀ wx, (Instr.makeSlice 30 (.int .i64 (n : Int)) (.int .i64 (n : Int))).run Tryd.prog wx = .ok (.slice (some ⟨wx.heap.size, 0, none⟩) n n) (wx.alloc (.cells (madeCells (Value.agg #[.int .i64 0, .int .i64 0]).cells (n * 2)) 70)) := by
    intro wx
    have hr := run_make (P := Tryd.prog) wx 30 70 i0 _ Tryd.underlying30 hi hz0 .i64 .i64 n n (by omega) (by omega) (by rw [hz2]; omega) (by omega)
    simp only [Int.toNat_natCast, hz1] at hr
    exact hr
  have hstart : Filling w w.heap.size n 0 l (w.alloc (.cells (madeCells (Value.agg #[.int .i64 0, .int .i64 0]).cells (n * 2)) 70)) :=
    ⟨(Below.refl _ _).alloc (Nat.le_refl _) _, _, Blk.made _ _ _, by simp [madeCells], by intro j hj; omega⟩
  have HS := Lib.hid hstart
  clear hstart hi hz0 hz1 hz2
  go_enter Tryd.func15, Tryd.ntmps15
  go_wp2
  go_loopw [4] (fun i wr => ∃ k : Nat, k ≤ n ∧ i = .int .i64 k ∧ Filling w w.heap.size n k l wr) (fun i _ => n - (intOf i).toNat)
  case atStart => exact ⟨0, Nat.zero_le _, rfl, HS.out⟩
  case round =>
    obtain ⟨k, hk, rfl, hF⟩ := hrel
    by_cases hlt : k < n
    · obtain ⟨b, off, rfl, hb, hc⟩ := hl.2 (by omega)
      obtain ⟨c1, c2⟩ := hc k hlt
      obtain ⟨t, ht⟩ : ∃ t, l.getD k (0, 0) = t := ⟨_, rfl⟩
      rw [ht] at c1 c2
      obtain ⟨op, N⟩ := t
      have hbel := hF.1
      have k1 := (hbel.cell (p := ⟨b, off + k * 2, none⟩) (by show b < _; omega)).trans c1
      have k2 := (hbel.cell (p := ⟨b, off + k * 2 + 1, none⟩) (by show b < _; omega)).trans c2
      have HT := Lib.hid ht
      have HF := Lib.hid hF
      have hszr := hbel.size
      clear c1 c2 hc ht
      go_wp2_with fail
      refine (toTok_any _ _ _).mono ?_
      rintro e w1 ⟨rfl, hb1⟩
      obtain ⟨_, cs, hblk, hs, _⟩ := HF.out
      have hblk1 := hblk.below hb1 hblk.lt
      have hlt1 := hblk1.lt
      have f1 := hblk1.thawed (k * 2)
      have f2 := hblk1.thawed (k * 2 + 1)
      obtain ⟨v1, e1⟩ : ∃ v1, w1.cell? ⟨w.heap.size, k * 2, none⟩ = some v1 := ⟨_, (hblk1.cell _).trans (Array.getElem?_eq_getElem (by omega))⟩
      obtain ⟨v2, e2⟩ : ∃ v2, w1.cell? ⟨w.heap.size, k * 2 + 1, none⟩ = some v2 := ⟨_, (hblk1.cell _).trans (Array.getElem?_eq_getElem (by omega))⟩
      have HN := Lib.hid (filling_step HF.out hb1 hlt HT.out)
      clear hblk hblk1 hs hF
      go_wp2
      go_roundw
      case rel => exact ⟨k + 1, by omega, by go_num, HN.out⟩
      case measure => simp [intOf]; omega
    · obtain rfl : k = n := by omega
      obtain ⟨hbel, hcs⟩ := hF
      have HC := Lib.hid hcs
      clear hcs
      go_wp2
      go_ret
      exact ⟨rfl, hbel, hl.1, HC.out⟩
end Go.Proofs.YtfmhmnpmdjpmeaaDoor
