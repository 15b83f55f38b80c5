/- What ArenaPut makes of a list of nodes and a level: token by token, with the places on a stack. -/
/- ArenaKeep of the program: words and contracts ahead of the walk. -/
/- The machine's struct with its stack. -/
/- The machine's methods: each does what one step on the stack says, or panics with errLevel. -/
import Derived.Test.YtfmhmnpmdjpmeaaDoorNdKeep
import Derived.Test.YtfmhmnpmdjpmeaaDoorNdWith2
import Derived.Test.YtfmhmnpmdjpmeaaDoorLaws1

namespace Go.Proofs.YtfmhmnpmdjpmeaaDoor
open Go.RowKit

def tkN (op : Int) : Nat := if op = 1 then 1 else if op = 2 ∨ op = 3 then 2 else 0
/-- the node of a token, over the places on the stack (its top first) -/
def putNd (t : Int × Int) (st : List Int) : Nd :=
  if t.1 = 1 then (t.1, t.2, -1, st.getD 0 0) else if t.1 = 2 ∨ t.1 = 3 then (t.1, t.2, st.getD 1 0, st.getD 0 0) else (t.1, t.2, -1, -1)
def addNd (ns : List Nd) (x : Nd) : List Nd := if x ∈ ns then ns else ns ++ [x]
def putS (ns : List Nd) (st : List Int) (t : Int × Int) : List Nd × List Int := (addNd ns (putNd t st), ((ns.idxOf (putNd t st) : Nat) : Int) :: st.drop (tkN t.1))
def putTo (ns : List Nd) (l : List (Int × Int)) : Nat → List Nd × List Int
  | 0 => (ns, [])
  | k + 1 => putS (putTo ns l k).1 (putTo ns l k).2 (l.getD k (0, 0))
def putOk (ns : List Nd) (l : List (Int × Int)) : Bool := arenaOkR ns && Lv.levelOk l && decide ((putTo ns l l.length).1.length ≤ 200)
def putNs (ns : List Nd) (l : List (Int × Int)) : List Nd := if putOk ns l = true then (putTo ns l l.length).1 else []
def putIx (ns : List Nd) (l : List (Int × Int)) : Int := if putOk ns l = true then (putTo ns l l.length).2.getD 0 0 else 0

theorem takes_tkN (op : Int) : Lv.takes op = (tkN op : Int) := by
  unfold Lv.takes tkN
  split
  · rfl
  · split <;> rfl
theorem addNd_len (ns : List Nd) (x : Nd) : ns.length ≤ (addNd ns x).length ∧ (addNd ns x).length ≤ ns.length + 1 := by
  unfold addNd
  split <;> simp
theorem addNd_idx (ns : List Nd) (x : Nd) : ns.idxOf x < (addNd ns x).length := by
  unfold addNd
  split
  · rename_i h
    exact List.idxOf_lt_length_of_mem h
  · rename_i h
    rw [List.idxOf_eq_length h]
    simp
theorem tok_take {l : List (Int × Int)} {k : Nat} (hk : k < l.length) : l.take (k + 1) = l.take k ++ [l.getD k (0, 0)] := by
  rw [List.take_add_one, List.getElem?_eq_getElem hk]
  simp [List.getD_eq_getElem?_getD, hk]
theorem put_hts {ns : List Nd} {l : List (Int × Int)} (hok : Lv.levelOk l = true) : ∀ k, k ≤ l.length → Lv.hts (l.take k) 0 = some ((putTo ns l k).2.length : Int) ∧ (k < l.length → Lv.tkOk (l.getD k (0, 0)) = true ∧ tkN (l.getD k (0, 0)).1 ≤ (putTo ns l k).2.length) := by
  simp only [Lv.levelOk, Bool.and_eq_true, decide_eq_true_eq] at hok
  have hstep : ∀ k, k < l.length → Lv.hts (l.take k) 0 = some ((putTo ns l k).2.length : Int) → Lv.tkOk (l.getD k (0, 0)) = true ∧ tkN (l.getD k (0, 0)).1 ≤ (putTo ns l k).2.length := by
    intro k hk h
    have h1 := hok.2
    rw [← List.take_append_drop (k + 1) l, Lv.hts_append, tok_take hk, Lv.hts_append, h, Option.bind_some] at h1
    simp only [Lv.hts] at h1
    rw [takes_tkN] at h1
    split at h1
    · rename_i hc
      exact ⟨hc.1, by have := hc.2; omega⟩
    · cases h1
  intro k
  induction k with
  | zero => exact fun _ => ⟨rfl, fun hk => hstep 0 hk rfl⟩
  | succ k ih =>
    intro hk
    obtain ⟨h1, h2⟩ := ih (by omega)
    obtain ⟨h3, h4⟩ := h2 (by omega)
    have h5 : Lv.hts (l.take (k + 1)) 0 = some ((putTo ns l (k + 1)).2.length : Int) := by
      rw [tok_take (by omega), Lv.hts_append, h1, Option.bind_some]
      simp only [Lv.hts]
      rw [takes_tkN, if_pos ⟨h3, by omega⟩]
      simp only [putTo, putS, List.length_cons, List.length_drop]
      congr 1
      omega
    exact ⟨h5, fun hk' => hstep (k + 1) hk' h5⟩
theorem put_step {ns : List Nd} {l : List (Int × Int)} (hok : Lv.levelOk l = true) {k : Nat} (hk : k < l.length) : Lv.tkOk (l.getD k (0, 0)) = true ∧ tkN (l.getD k (0, 0)).1 ≤ (putTo ns l k).2.length := (put_hts hok k (by omega)).2 hk
theorem put_last {ns : List Nd} {l : List (Int × Int)} (hok : Lv.levelOk l = true) : (putTo ns l l.length).2.length = 1 := by
  have h := (put_hts (ns := ns) hok l.length (Nat.le_refl _)).1
  rw [List.take_length] at h
  simp only [Lv.levelOk, Bool.and_eq_true, decide_eq_true_eq] at hok
  rw [hok.2] at h
  injection h with h
  omega
theorem put_len (ns : List Nd) (l : List (Int × Int)) : ∀ k, ns.length ≤ (putTo ns l k).1.length ∧ (putTo ns l k).1.length ≤ ns.length + k ∧ (putTo ns l k).2.length ≤ k
  | 0 => ⟨Nat.le_refl _, Nat.le_refl _, Nat.le_refl _⟩
  | k + 1 => by
    have h := put_len ns l k
    have h2 := addNd_len (putTo ns l k).1 (putNd (l.getD k (0, 0)) (putTo ns l k).2)
    simp only [putTo, putS, List.length_cons, List.length_drop]
    omega
theorem put_bd (ns : List Nd) (l : List (Int × Int)) : ∀ k, ∀ e ∈ (putTo ns l k).2, 0 ≤ e ∧ e < ((putTo ns l k).1.length : Int)
  | 0, e, he => by cases he
  | k + 1, e, he => by
    have h2 := addNd_len (putTo ns l k).1 (putNd (l.getD k (0, 0)) (putTo ns l k).2)
    have h3 := addNd_idx (putTo ns l k).1 (putNd (l.getD k (0, 0)) (putTo ns l k).2)
    simp only [putTo, putS, List.mem_cons] at he
    simp only [putTo, putS]
    rcases he with rfl | he
    · omega
    · have := put_bd ns l k e (List.mem_of_mem_drop he)
      omega
theorem getD_mem_in {st : List Int} {i : Nat} (h : i < st.length) : st.getD i 0 ∈ st := by
  rw [List.getD_eq_getElem?_getD, List.getElem?_eq_getElem h]
  exact List.getElem_mem h
/-- the node of a token is right at the place that comes next -/
theorem putNd_ok {t : Int × Int} {st : List Int} {m : Nat} (ht : Lv.tkOk t = true) (hst : tkN t.1 ≤ st.length) (hb : ∀ e ∈ st, 0 ≤ e ∧ e < (m : Int)) : ndOk (putNd t st) m = true := by
  obtain ⟨op, N⟩ := t
  have ht' := ht
  simp [Lv.tkOk] at ht'
  rcases Lv.tk_cases ht with e | e | e | e | e <;> simp only at e <;> subst e
  · simp [putNd, ndOk, tokB, opdB, tkA, tkB]
    omega
  · have h0 := hb _ (getD_mem_in (st := st) (i := 0) (by simp [tkN] at hst; omega))
    have hN : N = 0 := by omega
    subst hN
    rw [show putNd (1, 0) st = (1, 0, -1, st.getD 0 0) from rfl]
    simp only [ndOk, tokB, opdB, tkA, tkB]
    simp only [List.getD_eq_getElem?_getD] at h0 ⊢
    simp
    omega
  · have h0 := hb _ (getD_mem_in (st := st) (i := 0) (by simp [tkN] at hst; omega))
    have h1 := hb _ (getD_mem_in (st := st) (i := 1) (by simp [tkN] at hst; omega))
    have hN : N = 0 := by omega
    subst hN
    rw [show putNd (2, 0) st = (2, 0, st.getD 1 0, st.getD 0 0) from rfl]
    simp only [ndOk, tokB, opdB, tkA, tkB]
    simp only [List.getD_eq_getElem?_getD] at h0 h1 ⊢
    simp
    omega
  · have h0 := hb _ (getD_mem_in (st := st) (i := 0) (by simp [tkN] at hst; omega))
    have h1 := hb _ (getD_mem_in (st := st) (i := 1) (by simp [tkN] at hst; omega))
    have hN : N = 0 := by omega
    subst hN
    rw [show putNd (3, 0) st = (3, 0, st.getD 1 0, st.getD 0 0) from rfl]
    simp only [ndOk, tokB, opdB, tkA, tkB]
    simp only [List.getD_eq_getElem?_getD] at h0 h1 ⊢
    simp
    omega
  · simp [putNd, ndOk, tokB, opdB, tkA, tkB]
    omega
theorem put_nd {ns : List Nd} {l : List (Int × Int)} (hok : Lv.levelOk l = true) {k : Nat} (hk : k < l.length) : ndOk (putNd (l.getD k (0, 0)) (putTo ns l k).2) (putTo ns l k).1.length = true :=
  putNd_ok (put_step (ns := ns) hok hk).1 (put_step (ns := ns) hok hk).2 (put_bd ns l k)
end Go.Proofs.YtfmhmnpmdjpmeaaDoor

namespace Go.Proofs.YtfmhmnpmdjpmeaaDoor
open Go.RowKit Go.Maps

/-- an arena whose three blocks stay stays -/
theorem ArK.stay {w w' : World} {base g m n c : Nat} {A : Option Addr} {D : DataW Unit} {l : List Nd} (h : ArK w base g m A n c D l) (hg : w'.heap[g]? = w.heap[g]?) (hm : w'.heap[m]? = w.heap[m]?) (hr : ∀ b, (Value.slice A n c).ownBlock = some b → w'.heap[b]? = w.heap[b]?) : ArK w' base g m A n c D l := by
  refine ⟨hg.trans h.box, ?_, ?_⟩
  · refine ⟨h.row.1, ?_⟩
    rcases h.row.2 with hn | ⟨b, cap, cur, hv, h1, h2, h3⟩
    · exact .inl hn
    · exact .inr ⟨b, cap, cur, hv, h1, (hr b (by rw [hv]; rfl)).trans h2, h3⟩
  · obtain ⟨es, clock, h1, h2, h3, h4⟩ := h.map
    exact ⟨es, clock, hm.trans h1, h2, h3, h4⟩
theorem own_stay {w w' : World} {base n size : Nat} {e : TypeId} {v : Value} {xs : List Value} (h : w.ownsRow base e size v n xs) (hr : ∀ b, v.ownBlock = some b → w'.heap[b]? = w.heap[b]?) : w'.ownsRow base e size v n xs := by
  refine ⟨h.1, ?_⟩
  rcases h.2 with hn | ⟨b, cap, cur, hv, h1, h2, h3⟩
  · exact .inl hn
  · exact .inr ⟨b, cap, cur, hv, h1, (hr b (by rw [hv]; rfl)).trans h2, h3⟩
end Go.Proofs.YtfmhmnpmdjpmeaaDoor

namespace Go.Proofs.YtfmhmnpmdjpmeaaDoor
open Go.RowKit

/-- every block of another element type than int and machine is as it was -/
def Keeps (w w' : World) : Prop := ∀ (k : Nat) (cs : Array Value) (t : TypeId) (fr : Nat × Nat), w.heap[k]? = some (.cells cs t fr) → t ≠ 3 → t ≠ 96 → w'.heap[k]? = some (.cells cs t fr)

section
variable {w w' w'' : World}
theorem Keeps.refl (w : World) : Keeps w w := fun _ _ _ _ h _ _ => h
theorem Keeps.trans (h : Keeps w w') (h' : Keeps w' w'') : Keeps w w'' := fun k cs t fr hk h1 h2 => h' k cs t fr (h k cs t fr hk h1 h2) h1 h2
theorem Keeps.alloc (h : Keeps w w') (o : Obj) : Keeps w (w'.alloc o) := fun k cs t fr hk h1 h2 => by
  have h3 := h k cs t fr hk h1 h2
  rw [Below.heap_alloc w' o k (Array.getElem?_eq_some_iff.1 h3).1]
  exact h3
theorem Keeps.grown {row : Option Nat} (h : Keeps w w') (hg : w'.grownBy w'' row) (hr : ∀ g, row = some g → ∃ cs, Blk w' g 3 cs) : Keeps w w'' := fun k cs t fr hk h1 h2 => by
  have h3 := h k cs t fr hk h1 h2
  rw [hg.block k (Array.getElem?_eq_some_iff.1 h3).1 (fun e => by
    obtain ⟨cs', hb⟩ := hr k e.symm
    have e := Eq.trans (Eq.symm h3) hb
    injection e with e
    injection e with _ e2
    exact h1 e2)]
  exact h3
theorem Keeps.store (h : Keeps w w') {p : Addr} {cs' : Array Value} (hb : Blk w' p.block 96 cs') (u : Value) : Keeps w (w'.setCell p u) := fun k cs t fr hk h1 h2 => by
  have h3 := h k cs t fr hk h1 h2
  rw [Below.heap_setCell w' p u k (fun e => by
    subst e
    have e := Eq.trans (Eq.symm h3) hb
    injection e with e
    injection e with _ e2
    exact h2 e2)]
  exact h3
theorem Keeps.blk {g : Nat} {t : TypeId} {cs : Array Value} (h : Keeps w w') (hb : Blk w g t cs) (h1 : t ≠ 3) (h2 : t ≠ 96) : Blk w' g t cs := h g cs t (0, 0) hb h1 h2
end

/-- the cells of the machine's struct -/
def machCells (env : List Int) (sv : Value) : Array Value := (env.map (Value.int .i64) ++ [sv]).toArray

/-- block bm holds the machine: its env, and a stack of its own above B (its top first in st) -/
def Mach (w : World) (B bm : Nat) (env st : List Int) : Prop :=
  B ≤ bm ∧ env.length = 5 ∧ ∃ (A : Option Addr) (c : Nat), Blk w bm 96 (machCells env (.slice A st.length c)) ∧
    w.ownsRow B 3 1 (.slice A st.length c) st.length (st.reverse.map (Value.int .i64))

theorem mach_stack (env : List Int) (sv : Value) (h : env.length = 5) : (machCells env sv)[5]? = some sv := by
  simp [machCells, h]
theorem mach_env (env : List Int) (sv : Value) (h : env.length = 5) (i : Nat) (hi : i < 5) : (machCells env sv)[i]? = some (.int .i64 (env.getD i 0)) := by
  have hl : i < env.length := by omega
  simp [machCells, List.getElem?_append, hl]
theorem mach_put (env : List Int) (sv sv' : Value) (h : env.length = 5) : (machCells env sv).setIfInBounds 5 sv' = machCells env sv' := by
  simp [machCells, h]

/-- what the variable errLevel holds -/
def ErrAt (w : World) (T : TypeId) (pv : Value) : Prop := w.cell? ⟨0, 0, none⟩ = some (.iface T pv)
theorem ErrAt.below {w w' : World} {B : Nat} {T : TypeId} {pv : Value} (h : ErrAt w T pv) (hb : Below B w w') (hB : 0 < B) : ErrAt w' T pv := (hb.cell (p := ⟨0, 0, none⟩) hB).trans h

set_option maxHeartbeats 400000 in
theorem push_any (w : World) (B bm : Nat) (env st : List Int) (v : Int) (hm : Mach w B bm env st) (hs : st.length ≤ 1000) :
    Calls Tryd.prog 69 #[.pointer (some ⟨bm, 0, none⟩), .int .i64 v] w fun e w' => e = .returned (.tuple #[]) ∧ Mach w' B bm env (v :: st) ∧ Below B w w' ∧ Keeps w w' := by
  obtain ⟨hB, he, A, c, hblk, hown⟩ := hm
  have hlt := hblk.lt
  have hc5 : w.cell? ⟨bm, 5, none⟩ = some (.slice A st.length c) := (hblk.cell 5).trans (mach_stack env _ he)
  obtain ⟨i0, hi, hz0, hz1, hz2⟩ := info_parts info_int
  have HE := Lib.hid he
  clear he
  go_enter Tryd.func69, Tryd.ntmps69
  go_wp2_with (at_builtin; refine wpList_append_own _ rfl (.tmp 8) (.tmp 10) 40 rfl B 3 i0 (.int .i64 0) 1 8 Tryd.underlying40 hi hz0 hz1 hz2 rfl (by decide) (.slice A st.length c) st.length (st.reverse.map (Value.int .i64)) rfl (hown.alloc _) ⟨w.heap.size, 0, none⟩ 1 1 [.int .i64 v] rfl rfl ?c1 ?c2 ?c3 ?c4 ?c5 ?c6)
  case c1 => exact cell_one_new _ _ _
  case c2 => intro u hu; simp at hu; subst hu; rfl
  case c3 => unfold maxLen; omega
  case c4 => omega
  case c5 => simp; omega
  case c6 =>
    intro v' w1 hown' hgrow _
    obtain ⟨g, cap', rfl⟩ : ∃ g cap', v' = .slice (some ⟨g, 0, none⟩) (st.length + 1) cap' := by
      rcases hown'.2 with ⟨_, h⟩ | ⟨g, cap', _, h, _⟩
      · omega
      · exact ⟨g, cap', h⟩
    have hap := own_apart hown hblk (by decide)
    have hblk1 : Blk w1 bm 96 (machCells env (.slice A st.length c)) := (hblk.alloc _).grown hgrow (fun h => hap h.symm)
    have hk : w1.cell? ⟨bm, 5, none⟩ = some (.slice A st.length c) := (hblk1.cell 5).trans (mach_stack env _ HE.out)
    have hf := hblk1.thawed 5
    have hbel : Below B w w1 := (((Below.refl _ _).alloc (by omega) _)).grown hgrow (by simp; omega) (fun k h => (hown.lt k h).1)
    have hown2 := own_store (p := ⟨bm, 5, none⟩) hown' (own_apart hown' hblk1 (by decide)) (.slice (some ⟨g, 0, none⟩) (st.length + 1) cap')
    have hblk2 := hblk1.put 5 (.slice (some ⟨g, 0, none⟩) (st.length + 1) cap')
    have hbel2 := hbel.setCell (p := ⟨bm, 5, none⟩) hB (.slice (some ⟨g, 0, none⟩) (st.length + 1) cap')
    have hkp : Keeps w w1 := ((Keeps.refl w).alloc _).grown hgrow (fun g hg => own_blk (hown.alloc _) g hg)
    have hkp2 := hkp.store (p := ⟨bm, 5, none⟩) hblk1 (.slice (some ⟨g, 0, none⟩) (st.length + 1) cap')
    have H2 := Lib.hid hown2
    have H3 := Lib.hid hblk2
    have H4 := Lib.hid hkp2
    clear hkp hkp2
    clear hown2 hblk2 hgrow hown' hown hap
    go_wp2
    go_end0
    refine ⟨rfl, ⟨hB, HE.out, some ⟨g, 0, none⟩, cap', ?_, ?_⟩, hbel2, H4.out⟩
    · have h3 := H3.out
      rw [mach_put env _ _ HE.out] at h3
      exact h3
    · have h2 := H2.out
      simpa using h2
end Go.Proofs.YtfmhmnpmdjpmeaaDoor

namespace Go.Proofs.YtfmhmnpmdjpmeaaDoor
open Go.RowKit

/-- the panic with errLevel -/
def Bad (T : TypeId) (pv : Value) : Ending := .panicked [{ v := .iface T pv, recovered := false }]

/-- a row of n + 1 cells, cut to n -/
theorem own_pop {w : World} {base g cap n : Nat} {e : TypeId} {xs : List Value} {x : Value} (h : w.ownsRow base e 1 (.slice (some ⟨g, 0, none⟩) (n + 1) cap) (n + 1) (xs ++ [x])) :
    w.ownsRow base e 1 (.slice (some ⟨g, 0, none⟩) n cap) n xs := by
  have hl := h.1
  simp at hl
  rcases h.2 with ⟨h0, _⟩ | ⟨g', cap', cur, hv, hb, hgg, h1, h2, h3, h4⟩
  · cases h0
  · injection hv with e1 e2 e3
    injection e1 with e1
    injection e1 with e1
    subst e1; subst e3
    refine ⟨by omega, .inr ⟨g, cap, cur, rfl, hb, hgg, by omega, h2, h3, ?_⟩⟩
    have := congrArg (List.take n) h4
    rw [List.take_take] at this
    rw [show min n ((n + 1) * 1) = n * 1 by omega] at this
    rw [this, ← hl, List.take_left']
    rfl

set_option maxHeartbeats 400000 in
theorem pop_some (w : World) (B bm : Nat) (env st : List Int) (v : Int) (hm : Mach w B bm env (v :: st)) (hs : st.length ≤ 1000) :
    Calls Tryd.prog 72 #[.pointer (some ⟨bm, 0, none⟩)] w fun e w' => e = .returned (.int .i64 v) ∧ Mach w' B bm env st ∧ Below B w w' ∧ Keeps w w' := by
  obtain ⟨hB, he, A, c, hblk, hown⟩ := hm
  have hlt := hblk.lt
  obtain ⟨g, rfl⟩ : ∃ g, A = some ⟨g, 0, none⟩ := by
    rcases hown.2 with ⟨_, h⟩ | ⟨g, cap', _, h, _⟩
    · simp at h
    · injection h with h1; exact ⟨g, h1⟩
  have hcap : st.length + 1 ≤ c := by
    rcases hown.2 with ⟨_, h⟩ | ⟨g, cap', _, h, _, _, h1, _⟩
    · simp at h
    · injection h with _ _ h3; simpa [h3] using h1
  have hc5 : w.cell? ⟨bm, 5, none⟩ = some (.slice (some ⟨g, 0, none⟩) (st.length + 1) c) := (hblk.cell 5).trans (mach_stack env _ he)
  have hcv : w.cell? ⟨g, st.length, none⟩ = some (.int .i64 v) := by
    have h := hown.cells (g := g) rfl st.length (.int .i64 v) (by simp)
    have hadd : (⟨g, 0, none⟩ : Addr).add st.length = ⟨g, st.length, none⟩ := by unfold Addr.add; split <;> simp_all
    rw [hadd] at h
    exact h
  have hf := hblk.thawed 5
  have hown1 := own_pop (n := st.length) (xs := st.reverse.map (Value.int .i64)) (x := .int .i64 v) (by simpa using hown)
  have H2 := Lib.hid (own_store (p := ⟨bm, 5, none⟩) hown1 (own_apart hown1 hblk (by decide)) (.slice (some ⟨g, 0, none⟩) st.length c))
  have H3 := Lib.hid (hblk.put 5 (.slice (some ⟨g, 0, none⟩) st.length c))
  have H4 := Lib.hid ((Keeps.refl w).store (p := ⟨bm, 5, none⟩) hblk (.slice (some ⟨g, 0, none⟩) st.length c))
  have HE := Lib.hid he
  clear he hown hown1
  go_enter Tryd.func72, Tryd.ntmps72
  go_wp2
  go_ret
  refine ⟨rfl, ⟨hB, HE.out, some ⟨g, 0, none⟩, c, ?_, ?_⟩, (Below.refl _ _).setCell (p := ⟨bm, 5, none⟩) hB _, H4.out⟩
  · have h3 := H3.out
    rw [mach_put env _ _ HE.out] at h3
    exact h3
  · exact H2.out

set_option maxHeartbeats 400000 in
theorem pop_none (w : World) (B bm : Nat) (env : List Int) (T : TypeId) (pv : Value) (hm : Mach w B bm env []) (hE : ErrAt w T pv) :
    Calls Tryd.prog 72 #[.pointer (some ⟨bm, 0, none⟩)] w fun e w' => e = Bad T pv ∧ w = w' := by
  obtain ⟨hB, he, A, c, hblk, hown⟩ := hm
  have hc5 : w.cell? ⟨bm, 5, none⟩ = some (.slice A 0 c) := (hblk.cell 5).trans (mach_stack env _ he)
  unfold ErrAt at hE
  clear he hown hblk
  go_enter Tryd.func72, Tryd.ntmps72
  go_wp2
  exact ⟨rfl, rfl, rfl⟩

set_option maxHeartbeats 400000 in
theorem needZero_yes (n : Int) (w : World) (h : n = 0) :
    Calls Tryd.prog 119 #[.int .i64 n] w fun e w' => e = .returned (.tuple #[]) ∧ w = w' := by
  subst h
  go_enter Tryd.func119, Tryd.ntmps119
  go_wp2
  go_end0
  exact ⟨rfl, rfl⟩

set_option maxHeartbeats 400000 in
theorem needZero_no (n : Int) (w : World) (T : TypeId) (pv : Value) (h : n ≠ 0) (hE : ErrAt w T pv) :
    Calls Tryd.prog 119 #[.int .i64 n] w fun e w' => e = Bad T pv ∧ w = w' := by
  have h1 : (n != 0) = true := by simpa using h
  unfold ErrAt at hE
  go_enter Tryd.func119, Tryd.ntmps119
  go_wp2
  exact ⟨rfl, rfl, rfl⟩
end Go.Proofs.YtfmhmnpmdjpmeaaDoor
