/- slices.Concat over slices of tokens. -/
/- The machine's struct with its stack. -/
/- The machine's methods: each does what one step on the stack says, or panics with errLevel. -/
/- The five actions of the machine's table, each for every state: one step of the plain function, or the panic. -/
import Derived.Test.YtgebjnoicgmdoaaGreatDoorSlc

namespace Go.Proofs.YtgebjnoicgmdoaaGreatDoor
open Go.RowKit

theorem flat_take {α : Type} (ls : List (List α)) (k : Nat) (hk : k < ls.length) : (ls.take (k + 1)).flatten = (ls.take k).flatten ++ ls.getD k [] := by
  rw [List.take_succ_eq_append_getElem hk, List.flatten_append]
  simp [List.getD_eq_getElem?_getD, List.getElem?_eq_getElem hk]
theorem flat_le {α : Type} (ls : List (List α)) (k : Nat) : (ls.take k).flatten.length ≤ ls.flatten.length := by
  have h : ls.flatten = (ls.take k).flatten ++ (ls.drop k).flatten := by rw [← List.flatten_append, List.take_append_drop]
  rw [h]; simp

/-- the slices that are joined: their values in a row at block gs, their tokens below B -/
def Parts (w : World) (B gs : Nat) (ad : Nat → Addr) (cp : Nat → Nat) (ls : List (List (Int × Int))) : Prop :=
  gs < B ∧ ∀ i, i < ls.length → w.cell? ⟨gs, i, none⟩ = some (.slice (some (ad i)) (ls.getD i []).length (cp i)) ∧ TokA w B (ad i) (ls.getD i [])
theorem Parts.below {w w' : World} {B gs : Nat} {ad : Nat → Addr} {cp : Nat → Nat} {ls : List (List (Int × Int))} (h : Parts w B gs ad cp ls) (hb : Below B w w') : Parts w' B gs ad cp ls :=
  ⟨h.1, fun i hi => ⟨(hb.cell (p := ⟨gs, i, none⟩) h.1).trans (h.2 i hi).1, (h.2 i hi).2.below hb⟩⟩

set_option maxRecDepth 100000 in
set_option maxHeartbeats 1600000 in
theorem concat_any (w : World) (B gs cs : Nat) (ad : Nat → Addr) (cp : Nat → Nat) (ls : List (List (Int × Int))) (hB : B ≤ w.heap.size) (hp : Parts w B gs ad cp ls) (hm : ls.length ≤ 10) (h1 : 1 ≤ ls.flatten.length) (hn : ls.flatten.length ≤ 1000) :
    Calls Tryz.prog 143 #[.slice (some ⟨gs, 0, none⟩) ls.length cs] w (ResT w ls.flatten) := by
  obtain ⟨i0, hi, hz0, hz1, hz2⟩ := info_parts info_tok
  go_enter Tryz.func143, Tryz.ntmps143
  go_wp2
  go_loop [3, 11] (fun s i => ∃ k : Nat, k ≤ ls.length ∧ i = .int .i64 k ∧ s = .int .i64 ((ls.take k).flatten.length : Nat)) (fun _ i => ls.length - (intOf i).toNat)
  case atStart => exact ⟨0, Nat.zero_le _, rfl, rfl⟩
  case round =>
    obtain ⟨k, hk, rfl, rfl⟩ := hrel
    have hle := flat_le ls k
    by_cases hlt : k < ls.length
    · have hc := (hp.2 k hlt).1
      have HF := Lib.hid (congrArg List.length (flat_take ls k hlt))
      have hle2 := flat_le ls (k + 1)
      have hsum : (ls.take k).flatten.length + (ls.getD k []).length ≤ 1000 := by
        have := HF.out
        simp at this
        simp at hle2
        have : (List.take (k + 1) ls).flatten.length ≤ ls.flatten.length := by simpa using flat_le ls (k + 1)
        rw [HF.out, List.length_append] at this
        omega
      have HP := Lib.hid hp
      obtain ⟨a, ha⟩ : ∃ a, (ls.take k).flatten.length = a := ⟨_, rfl⟩
      obtain ⟨b, hb⟩ : ∃ b, (ls.getD k []).length = b := ⟨_, rfl⟩
      have HF2 : Hid ((ls.take (k + 1)).flatten.length = a + b) := by
        show _ = _
        rw [HF.out, List.length_append, ha, hb]
      rw [hb] at hc
      rw [ha, hb] at hsum
      have HA := Lib.hid ha
      rw [ha]
      clear ha hb hle hle2 HF hp
      go_wp2
      go_round
      case rel => exact ⟨k + 1, by omega, by go_num, by rw [HF2.out]; go_num⟩
      case measure => simp [intOf]; omega
    · obtain rfl : k = ls.length := by omega
      have ht : (ls.take ls.length).flatten.length = ls.flatten.length := by rw [List.take_length]
      rw [ht]
      have HT := Lib.hid ht
      obtain ⟨N, hN⟩ : ∃ N, ls.flatten.length = N := ⟨_, rfl⟩
      rw [hN] at h1 hn ⊢
      have HN := Lib.hid hN
      clear ht hN hle hlt
      go_wp2_with fail
      refine (grow_nil N h1 hn w).mono ?_
      rintro e w1 ⟨g, c, rfl, ho1, hb1⟩
      simp only [List.length_nil] at ho1 ⊢
      have HO1 := Lib.hid ho1
      clear ho1
      go_wp2
      go_loopw [6, 27] (fun v i wr => ∃ (k g c : Nat), k ≤ ls.length ∧ i = .int .i64 k ∧ v = .slice (some ⟨g, 0, none⟩) (ls.take k).flatten.length c ∧ OwnT wr w.heap.size (some ⟨g, 0, none⟩) (ls.take k).flatten.length c (ls.take k).flatten ∧ Below w.heap.size w wr) (fun _ i _ => ls.length - (intOf i).toNat)
      case atStart => exact ⟨0, g, c, Nat.zero_le _, rfl, rfl, HO1.out, hb1⟩
      case round =>
        obtain ⟨k, g, c, hk, rfl, rfl, hown, hbel⟩ := hrel
        have hszr := hbel.size
        by_cases hlt : k < ls.length
        · have hpr := hp.below (hbel.mono hB)
          obtain ⟨hc, hT⟩ := hpr.2 k hlt
          have HF := Lib.hid (flat_take ls k hlt)
          have hle2 : (ls.take (k + 1)).flatten.length ≤ N := by rw [← HN.out]; exact flat_le ls (k + 1)
          have HTA := Lib.hid hT
          obtain ⟨L, hL⟩ : ∃ L, ls.getD k [] = L := ⟨_, rfl⟩
          obtain ⟨F, hF⟩ : ∃ F, (ls.take k).flatten = F := ⟨_, rfl⟩
          have HF2 : Hid ((ls.take (k + 1)).flatten = F ++ L) := by
            show _ = _
            rw [HF.out, hL, hF]
          rw [HF2.out, List.length_append] at hle2
          rw [hL] at hc HTA
          rw [hF] at hown ⊢
          have HP := Lib.hid hp
          have HPR := Lib.hid hpr
          obtain ⟨q, hq⟩ : ∃ q, ad k = q := ⟨_, rfl⟩
          rw [hq] at hc HTA
          clear hL hF HF hT hp hpr hq
          go_wp2_with (at_builtin; refine wpList_append_own _ rfl (.tmp 31) (.tmp 32) 25 rfl w.heap.size 51 i0 (.agg #[.int .i64 0, .int .i64 0]) 2 16 Tryz.underlying25 hi hz0 hz1 hz2 rfl (by decide) (.slice (some ⟨g, 0, none⟩) F.length c) F.length (tokCells F) rfl hown q L.length (cp k) (tokCells L) rfl (tokCells_len L) HTA.out.2 (tokCells_one L) (by unfold maxLen; omega) (by omega) hszr ?_; intro v' w3 hown' hgrow hnil)
          · obtain ⟨g', cap', rfl⟩ : ∃ g' cap', v' = .slice (some ⟨g', 0, none⟩) (F.length + L.length) cap' := by
              rcases hown'.2 with ⟨h0, _⟩ | ⟨g', cap', _, h0, _⟩
              · have := (hnil.1 h0).1
                cases this
              · exact ⟨g', cap', h0⟩
            have HB1 : Hid (Below w.heap.size w w3) := hbel.grown hgrow hszr (fun k h => (hown.lt k h).1)
            have HW : Hid (OwnT w3 w.heap.size (some ⟨g', 0, none⟩) (ls.take (k + 1)).flatten.length cap' (ls.take (k + 1)).flatten) := by
              show OwnT _ _ _ _ _ _
              rw [HF2.out, List.length_append]
              unfold OwnT
              rw [tokCells_append]
              exact hown'
            have HLn : Hid ((ls.take (k + 1)).flatten.length = F.length + L.length) := by show _ = _; rw [HF2.out, List.length_append]
            clear hown hown' hgrow hbel hnil
            go_wp2
            go_roundw
            case rel => exact ⟨k + 1, g', cap', by omega, by go_num, by rw [HLn.out], HW.out, HB1.out⟩
            case measure => simp [intOf]; omega
        · obtain rfl : k = ls.length := by omega
          rw [List.take_length] at hown ⊢
          have HO := Lib.hid hown
          clear hown
          go_wp2
          go_ret
          exact ⟨g, c, rfl, HO.out, hbel⟩
end Go.Proofs.YtgebjnoicgmdoaaGreatDoor

namespace Go.Proofs.YtgebjnoicgmdoaaGreatDoor
open Go.RowKit

/-- every block of another element type than int and machine is as it was -/
def Keeps (w w' : World) : Prop := ∀ (k : Nat) (cs : Array Value) (t : TypeId) (fr : Nat × Nat), w.heap[k]? = some (.cells cs t fr) → t ≠ 3 → t ≠ 104 → w'.heap[k]? = some (.cells cs t fr)

section
variable {w w' w'' : World}
theorem Keeps.refl (w : World) : Keeps w w := fun _ _ _ _ h _ _ => h
theorem Keeps.trans (h : Keeps w w') (h' : Keeps w' w'') : Keeps w w'' := fun k cs t fr hk h1 h2 => h' k cs t fr (h k cs t fr hk h1 h2) h1 h2
theorem Keeps.alloc (h : Keeps w w') (o : Obj) : Keeps w (w'.alloc o) := fun k cs t fr hk h1 h2 => by
  have h3 := h k cs t fr hk h1 h2
  rw [Below.heap_alloc w' o k (Array.getElem?_eq_some_iff.1 h3).1]
  exact h3
theorem Keeps.grown {row : Option Nat} (h : Keeps w w') (hg : w'.grownBy w'' row) (hr : ∀ g, row = some g → ∃ cs, Blk w' g 3 cs) : Keeps w w'' := fun k cs t fr hk h1 h2 => by
  have h3 := h k cs t fr hk h1 h2
  rw [hg.block k (Array.getElem?_eq_some_iff.1 h3).1 (fun e => by
    obtain ⟨cs', hb⟩ := hr k e.symm
    have e := Eq.trans (Eq.symm h3) hb
    injection e with e
    injection e with _ e2
    exact h1 e2)]
  exact h3
theorem Keeps.store (h : Keeps w w') {p : Addr} {cs' : Array Value} (hb : Blk w' p.block 104 cs') (u : Value) : Keeps w (w'.setCell p u) := fun k cs t fr hk h1 h2 => by
  have h3 := h k cs t fr hk h1 h2
  rw [Below.heap_setCell w' p u k (fun e => by
    subst e
    have e := Eq.trans (Eq.symm h3) hb
    injection e with e
    injection e with _ e2
    exact h2 e2)]
  exact h3
theorem Keeps.blk {g : Nat} {t : TypeId} {cs : Array Value} (h : Keeps w w') (hb : Blk w g t cs) (h1 : t ≠ 3) (h2 : t ≠ 104) : Blk w' g t cs := h g cs t (0, 0) hb h1 h2
end

/-- the cells of the machine's struct -/
def machCells (env : List Int) (sv : Value) : Array Value := (env.map (Value.int .i64) ++ [sv]).toArray

/-- block bm holds the machine: its env, and a stack of its own above B (its top first in st) -/
def Mach (w : World) (B bm : Nat) (env st : List Int) : Prop :=
  B ≤ bm ∧ env.length = 5 ∧ ∃ (A : Option Addr) (c : Nat), Blk w bm 104 (machCells env (.slice A st.length c)) ∧
    w.ownsRow B 3 1 (.slice A st.length c) st.length (st.reverse.map (Value.int .i64))

theorem mach_stack (env : List Int) (sv : Value) (h : env.length = 5) : (machCells env sv)[5]? = some sv := by
  simp [machCells, h]
theorem mach_env (env : List Int) (sv : Value) (h : env.length = 5) (i : Nat) (hi : i < 5) : (machCells env sv)[i]? = some (.int .i64 (env.getD i 0)) := by
  have hl : i < env.length := by omega
  simp [machCells, List.getElem?_append, hl]
theorem mach_put (env : List Int) (sv sv' : Value) (h : env.length = 5) : (machCells env sv).setIfInBounds 5 sv' = machCells env sv' := by
  simp [machCells, h]

/-- what the variable errLevel holds -/
def ErrAt (w : World) (T : TypeId) (pv : Value) : Prop := w.cell? ⟨1, 0, none⟩ = some (.iface T pv)
theorem ErrAt.below {w w' : World} {B : Nat} {T : TypeId} {pv : Value} (h : ErrAt w T pv) (hb : Below B w w') (hB : 1 < B) : ErrAt w' T pv := (hb.cell (p := ⟨1, 0, none⟩) hB).trans h

set_option maxHeartbeats 400000 in
theorem push_any (w : World) (B bm : Nat) (env st : List Int) (v : Int) (hm : Mach w B bm env st) (hs : st.length ≤ 1000) :
    Calls Tryz.prog 155 #[.pointer (some ⟨bm, 0, none⟩), .int .i64 v] w fun e w' => e = .returned (.tuple #[]) ∧ Mach w' B bm env (v :: st) ∧ Below B w w' ∧ Keeps w w' := by
  obtain ⟨hB, he, A, c, hblk, hown⟩ := hm
  have hlt := hblk.lt
  have hc5 : w.cell? ⟨bm, 5, none⟩ = some (.slice A st.length c) := (hblk.cell 5).trans (mach_stack env _ he)
  obtain ⟨i0, hi, hz0, hz1, hz2⟩ := info_parts info_int
  have HE := Lib.hid he
  clear he
  go_enter Tryz.func155, Tryz.ntmps155
  go_wp2_with (at_builtin; refine wpList_append_own _ rfl (.tmp 8) (.tmp 10) 29 rfl B 3 i0 (.int .i64 0) 1 8 Tryz.underlying29 hi hz0 hz1 hz2 rfl (by decide) (.slice A st.length c) st.length (st.reverse.map (Value.int .i64)) rfl (hown.alloc _) ⟨w.heap.size, 0, none⟩ 1 1 [.int .i64 v] rfl rfl ?c1 ?c2 ?c3 ?c4 ?c5 ?c6)
  case c1 => exact cell_one_new _ _ _
  case c2 => intro u hu; simp at hu; subst hu; rfl
  case c3 => unfold maxLen; omega
  case c4 => omega
  case c5 => simp; omega
  case c6 =>
    intro v' w1 hown' hgrow _
    obtain ⟨g, cap', rfl⟩ : ∃ g cap', v' = .slice (some ⟨g, 0, none⟩) (st.length + 1) cap' := by
      rcases hown'.2 with ⟨_, h⟩ | ⟨g, cap', _, h, _⟩
      · omega
      · exact ⟨g, cap', h⟩
    have hap := own_apart hown hblk (by decide)
    have hblk1 : Blk w1 bm 104 (machCells env (.slice A st.length c)) := (hblk.alloc _).grown hgrow (fun h => hap h.symm)
    have hk : w1.cell? ⟨bm, 5, none⟩ = some (.slice A st.length c) := (hblk1.cell 5).trans (mach_stack env _ HE.out)
    have hf := hblk1.thawed 5
    have hbel : Below B w w1 := (((Below.refl _ _).alloc (by omega) _)).grown hgrow (by simp; omega) (fun k h => (hown.lt k h).1)
    have hown2 := own_store (p := ⟨bm, 5, none⟩) hown' (own_apart hown' hblk1 (by decide)) (.slice (some ⟨g, 0, none⟩) (st.length + 1) cap')
    have hblk2 := hblk1.put 5 (.slice (some ⟨g, 0, none⟩) (st.length + 1) cap')
    have hbel2 := hbel.setCell (p := ⟨bm, 5, none⟩) hB (.slice (some ⟨g, 0, none⟩) (st.length + 1) cap')
    have hkp : Keeps w w1 := ((Keeps.refl w).alloc _).grown hgrow (fun g hg => own_blk (hown.alloc _) g hg)
    have hkp2 := hkp.store (p := ⟨bm, 5, none⟩) hblk1 (.slice (some ⟨g, 0, none⟩) (st.length + 1) cap')
    have H2 := Lib.hid hown2
    have H3 := Lib.hid hblk2
    have H4 := Lib.hid hkp2
    clear hkp hkp2
    clear hown2 hblk2 hgrow hown' hown hap
    go_wp2
    go_end0
    refine ⟨rfl, ⟨hB, HE.out, some ⟨g, 0, none⟩, cap', ?_, ?_⟩, hbel2, H4.out⟩
    · have h3 := H3.out
      rw [mach_put env _ _ HE.out] at h3
      exact h3
    · have h2 := H2.out
      simpa using h2
end Go.Proofs.YtgebjnoicgmdoaaGreatDoor

namespace Go.Proofs.YtgebjnoicgmdoaaGreatDoor
open Go.RowKit

/-- the panic with errLevel -/
def Bad (T : TypeId) (pv : Value) : Ending := .panicked [{ v := .iface T pv, recovered := false }]

/-- a row of n + 1 cells, cut to n -/
theorem own_pop {w : World} {base g cap n : Nat} {e : TypeId} {xs : List Value} {x : Value} (h : w.ownsRow base e 1 (.slice (some ⟨g, 0, none⟩) (n + 1) cap) (n + 1) (xs ++ [x])) :
    w.ownsRow base e 1 (.slice (some ⟨g, 0, none⟩) n cap) n xs := by
  have hl := h.1
  simp at hl
  rcases h.2 with ⟨h0, _⟩ | ⟨g', cap', cur, hv, hb, hgg, h1, h2, h3, h4⟩
  · cases h0
  · injection hv with e1 e2 e3
    injection e1 with e1
    injection e1 with e1
    subst e1; subst e3
    refine ⟨by omega, .inr ⟨g, cap, cur, rfl, hb, hgg, by omega, h2, h3, ?_⟩⟩
    have := congrArg (List.take n) h4
    rw [List.take_take] at this
    rw [show min n ((n + 1) * 1) = n * 1 by omega] at this
    rw [this, ← hl, List.take_left']
    rfl

set_option maxHeartbeats 400000 in
theorem pop_some (w : World) (B bm : Nat) (env st : List Int) (v : Int) (hm : Mach w B bm env (v :: st)) (hs : st.length ≤ 1000) :
    Calls Tryz.prog 106 #[.pointer (some ⟨bm, 0, none⟩)] w fun e w' => e = .returned (.int .i64 v) ∧ Mach w' B bm env st ∧ Below B w w' ∧ Keeps w w' := by
  obtain ⟨hB, he, A, c, hblk, hown⟩ := hm
  have hlt := hblk.lt
  obtain ⟨g, rfl⟩ : ∃ g, A = some ⟨g, 0, none⟩ := by
    rcases hown.2 with ⟨_, h⟩ | ⟨g, cap', _, h, _⟩
    · simp at h
    · injection h with h1; exact ⟨g, h1⟩
  have hcap : st.length + 1 ≤ c := by
    rcases hown.2 with ⟨_, h⟩ | ⟨g, cap', _, h, _, _, h1, _⟩
    · simp at h
    · injection h with _ _ h3; simpa [h3] using h1
  have hc5 : w.cell? ⟨bm, 5, none⟩ = some (.slice (some ⟨g, 0, none⟩) (st.length + 1) c) := (hblk.cell 5).trans (mach_stack env _ he)
  have hcv : w.cell? ⟨g, st.length, none⟩ = some (.int .i64 v) := by
    have h := hown.cells (g := g) rfl st.length (.int .i64 v) (by simp)
    have hadd : (⟨g, 0, none⟩ : Addr).add st.length = ⟨g, st.length, none⟩ := by unfold Addr.add; split <;> simp_all
    rw [hadd] at h
    exact h
  have hf := hblk.thawed 5
  have hown1 := own_pop (n := st.length) (xs := st.reverse.map (Value.int .i64)) (x := .int .i64 v) (by simpa using hown)
  have H2 := Lib.hid (own_store (p := ⟨bm, 5, none⟩) hown1 (own_apart hown1 hblk (by decide)) (.slice (some ⟨g, 0, none⟩) st.length c))
  have H3 := Lib.hid (hblk.put 5 (.slice (some ⟨g, 0, none⟩) st.length c))
  have H4 := Lib.hid ((Keeps.refl w).store (p := ⟨bm, 5, none⟩) hblk (.slice (some ⟨g, 0, none⟩) st.length c))
  have HE := Lib.hid he
  clear he hown hown1
  go_enter Tryz.func106, Tryz.ntmps106
  go_wp2
  go_ret
  refine ⟨rfl, ⟨hB, HE.out, some ⟨g, 0, none⟩, c, ?_, ?_⟩, (Below.refl _ _).setCell (p := ⟨bm, 5, none⟩) hB _, H4.out⟩
  · have h3 := H3.out
    rw [mach_put env _ _ HE.out] at h3
    exact h3
  · exact H2.out

set_option maxHeartbeats 400000 in
theorem pop_none (w : World) (B bm : Nat) (env : List Int) (T : TypeId) (pv : Value) (hm : Mach w B bm env []) (hE : ErrAt w T pv) :
    Calls Tryz.prog 106 #[.pointer (some ⟨bm, 0, none⟩)] w fun e w' => e = Bad T pv ∧ w = w' := by
  obtain ⟨hB, he, A, c, hblk, hown⟩ := hm
  have hc5 : w.cell? ⟨bm, 5, none⟩ = some (.slice A 0 c) := (hblk.cell 5).trans (mach_stack env _ he)
  unfold ErrAt at hE
  clear he hown hblk
  go_enter Tryz.func106, Tryz.ntmps106
  go_wp2
  exact ⟨rfl, rfl, rfl⟩

set_option maxHeartbeats 400000 in
theorem needZero_yes (n : Int) (w : World) (h : n = 0) :
    Calls Tryz.prog 154 #[.int .i64 n] w fun e w' => e = .returned (.tuple #[]) ∧ w = w' := by
  subst h
  go_enter Tryz.func154, Tryz.ntmps154
  go_wp2
  go_end0
  exact ⟨rfl, rfl⟩

set_option maxHeartbeats 400000 in
theorem needZero_no (n : Int) (w : World) (T : TypeId) (pv : Value) (h : n ≠ 0) (hE : ErrAt w T pv) :
    Calls Tryz.prog 154 #[.int .i64 n] w fun e w' => e = Bad T pv ∧ w = w' := by
  have h1 : (n != 0) = true := by simpa using h
  unfold ErrAt at hE
  go_enter Tryz.func154, Tryz.ntmps154
  go_wp2
  exact ⟨rfl, rfl, rfl⟩
end Go.Proofs.YtgebjnoicgmdoaaGreatDoor

namespace Go.Proofs.YtgebjnoicgmdoaaGreatDoor
open Go.RowKit

/-- what an action leaves: the stack that the plain step gives, or the panic; all below B as it was -/
def Stepped (w : World) (B bm : Nat) (env : List Int) (r : Option (List Int)) (T : TypeId) (pv : Value) (e : Ending) (w' : World) : Prop :=
  Below B w w' ∧ Keeps w w' ∧ match r with
    | some st' => e = .returned (.tuple #[]) ∧ Mach w' B bm env st'
    | none => e = Bad T pv

section
variable (w : World) (B bm : Nat) (env st : List Int) (T : TypeId) (pv : Value) (n : Int)

theorem tk_no (i : Int) (hi : i = 0 ∨ i = 1 ∨ i = 2 ∨ i = 3) (h : n ≠ 0) : Lv.step env (i, n) st = none := by
  have : Lv.tkOk (i, n) = false := by
    rw [Bool.eq_false_iff]; intro hk; simp [Lv.tkOk] at hk; omega
  simp [Lv.step, this]

theorem max_step (s : List Int) (a b : Int) : Lv.step env (2, 0) (b :: a :: s) = some (max a b :: s) := by simp [Lv.step, Lv.tkOk]
theorem imax_step (s : List Int) (a b : Int) (h : ¬ b = 0) : Lv.step env (3, 0) (b :: a :: s) = some (max a b :: s) := by simp [Lv.step, Lv.tkOk, h]

set_option maxHeartbeats 400000 in
theorem zero_any (hm : Mach w B bm env st) (hs : st.length ≤ 900) (hE : ErrAt w T pv) :
    Calls Tryz.prog 133 #[.pointer (some ⟨bm, 0, none⟩), .int .i64 n] w (Stepped w B bm env (Lv.step env (0, n) st) T pv) := by
  by_cases h : n = 0
  · subst h
    go_enter Tryz.func133, Tryz.ntmps133
    go_wp2_with fail
    refine (needZero_yes 0 _ rfl).mono ?_
    rintro e w' ⟨rfl, rfl⟩
    go_wp2_with fail
    refine (push_any _ B bm env st 0 hm (by omega)).mono ?_
    rintro e w' ⟨rfl, hm', hb, hk⟩
    go_wp2
    go_end0
    exact ⟨hb, hk, rfl, hm'⟩
  · go_enter Tryz.func133, Tryz.ntmps133
    go_wp2_with fail
    refine (needZero_no n _ T pv h hE).mono ?_
    rintro e w' ⟨rfl, rfl⟩
    refine ⟨rfl, Below.refl _ _, Keeps.refl _, ?_⟩
    rw [tk_no env st n 0 (by omega) h]
    rfl

set_option maxHeartbeats 400000 in
theorem succ_any (hm : Mach w B bm env st) (hs : st.length ≤ 900) (hv : ∀ x ∈ st, 0 ≤ x ∧ x ≤ 100000) (hE : ErrAt w T pv) :
    Calls Tryz.prog 134 #[.pointer (some ⟨bm, 0, none⟩), .int .i64 n] w (Stepped w B bm env (Lv.step env (1, n) st) T pv) := by
  by_cases h : n = 0
  · subst h
    rcases st with _ | ⟨a, s⟩
    · clear hv
      go_enter Tryz.func134, Tryz.ntmps134
      go_wp2_with fail
      refine (needZero_yes 0 _ rfl).mono ?_
      rintro e w' ⟨rfl, rfl⟩
      go_wp2_with fail
      refine (pop_none _ B bm env T pv hm hE).mono ?_
      rintro e w' ⟨rfl, rfl⟩
      exact ⟨rfl, Below.refl _ _, Keeps.refl _, rfl⟩
    · have hva := hv a (by simp)
      have ha0 := hva.1
      have ha1 := hva.2
      clear hv hva
      simp only [List.length_cons] at hs
      go_enter Tryz.func134, Tryz.ntmps134
      go_wp2_with fail
      refine (needZero_yes 0 _ rfl).mono ?_
      rintro e w' ⟨rfl, rfl⟩
      go_wp2_with fail
      refine (pop_some _ B bm env s a hm (by omega)).mono ?_
      rintro e w1 ⟨rfl, hm1, hb1, hk1⟩
      go_wp2_with fail
      refine (push_any _ B bm env s (a + 1) hm1 (by omega)).mono ?_
      rintro e w2 ⟨rfl, hm2, hb2, hk2⟩
      go_wp2
      go_end0
      exact ⟨hb1.trans hb2, hk1.trans hk2, rfl, hm2⟩
  · clear hv
    go_enter Tryz.func134, Tryz.ntmps134
    go_wp2_with fail
    refine (needZero_no n _ T pv h hE).mono ?_
    rintro e w' ⟨rfl, rfl⟩
    refine ⟨rfl, Below.refl _ _, Keeps.refl _, ?_⟩
    rw [tk_no env st n 1 (by omega) h]
    rfl

set_option maxHeartbeats 800000 in
theorem max_any (hB : 1 < B) (hm : Mach w B bm env st) (hs : st.length ≤ 900) (hE : ErrAt w T pv) :
    Calls Tryz.prog 135 #[.pointer (some ⟨bm, 0, none⟩), .int .i64 n] w (Stepped w B bm env (Lv.step env (2, n) st) T pv) := by
  by_cases h : n = 0
  · subst h
    rcases st with _ | ⟨b, _ | ⟨a, s⟩⟩
    · go_enter Tryz.func135, Tryz.ntmps135
      go_wp2_with fail
      refine (needZero_yes 0 _ rfl).mono ?_
      rintro e w' ⟨rfl, rfl⟩
      go_wp2_with fail
      refine (pop_none _ B bm env T pv hm hE).mono ?_
      rintro e w' ⟨rfl, rfl⟩
      exact ⟨rfl, Below.refl _ _, Keeps.refl _, rfl⟩
    · go_enter Tryz.func135, Tryz.ntmps135
      go_wp2_with fail
      refine (needZero_yes 0 _ rfl).mono ?_
      rintro e w' ⟨rfl, rfl⟩
      go_wp2_with fail
      refine (pop_some _ B bm env [] b hm (by simp)).mono ?_
      rintro e w1 ⟨rfl, hm1, hb1, hk1⟩
      go_wp2_with fail
      refine (pop_none _ B bm env T pv hm1 (hE.below hb1 hB)).mono ?_
      rintro e w' ⟨rfl, rfl⟩
      exact ⟨rfl, hb1, hk1, rfl⟩
    · simp only [List.length_cons] at hs
      go_enter Tryz.func135, Tryz.ntmps135
      go_wp2_with fail
      refine (needZero_yes 0 _ rfl).mono ?_
      rintro e w' ⟨rfl, rfl⟩
      go_wp2_with fail
      refine (pop_some _ B bm env (a :: s) b hm (by simp; omega)).mono ?_
      rintro e w1 ⟨rfl, hm1, hb1, hk1⟩
      go_wp2_with fail
      refine (pop_some _ B bm env s a hm1 (by omega)).mono ?_
      rintro e w2 ⟨rfl, hm2, hb2, hk2⟩
      go_wp2_with fail
      all_goals
        refine (push_any _ B bm env s _ hm2 (by omega)).mono ?_
        rintro e w3 ⟨rfl, hm3, hb3, hk3⟩
        go_wp2
        go_end0
        refine ⟨(hb1.trans hb2).trans hb3, (hk1.trans hk2).trans hk3, ?_⟩
        rw [max_step]
        refine ⟨rfl, ?_⟩
        first | (rw [show max a b = b by omega]; exact hm3) | (rw [show max a b = a by omega]; exact hm3)
  · go_enter Tryz.func135, Tryz.ntmps135
    go_wp2_with fail
    refine (needZero_no n _ T pv h hE).mono ?_
    rintro e w' ⟨rfl, rfl⟩
    refine ⟨rfl, Below.refl _ _, Keeps.refl _, ?_⟩
    rw [tk_no env st n 2 (by omega) h]
    rfl

set_option maxHeartbeats 800000 in
theorem imax_any (hB : 1 < B) (hm : Mach w B bm env st) (hs : st.length ≤ 900) (hE : ErrAt w T pv) :
    Calls Tryz.prog 136 #[.pointer (some ⟨bm, 0, none⟩), .int .i64 n] w (Stepped w B bm env (Lv.step env (3, n) st) T pv) := by
  by_cases h : n = 0
  · subst h
    rcases st with _ | ⟨b, _ | ⟨a, s⟩⟩
    · go_enter Tryz.func136, Tryz.ntmps136
      go_wp2_with fail
      refine (needZero_yes 0 _ rfl).mono ?_
      rintro e w' ⟨rfl, rfl⟩
      go_wp2_with fail
      refine (pop_none _ B bm env T pv hm hE).mono ?_
      rintro e w' ⟨rfl, rfl⟩
      exact ⟨rfl, Below.refl _ _, Keeps.refl _, rfl⟩
    · go_enter Tryz.func136, Tryz.ntmps136
      go_wp2_with fail
      refine (needZero_yes 0 _ rfl).mono ?_
      rintro e w' ⟨rfl, rfl⟩
      go_wp2_with fail
      refine (pop_some _ B bm env [] b hm (by simp)).mono ?_
      rintro e w1 ⟨rfl, hm1, hb1, hk1⟩
      go_wp2_with fail
      refine (pop_none _ B bm env T pv hm1 (hE.below hb1 hB)).mono ?_
      rintro e w' ⟨rfl, rfl⟩
      exact ⟨rfl, hb1, hk1, rfl⟩
    · simp only [List.length_cons] at hs
      by_cases hb : b = 0
      · subst hb
        go_enter Tryz.func136, Tryz.ntmps136
        go_wp2_with fail
        refine (needZero_yes 0 _ rfl).mono ?_
        rintro e w' ⟨rfl, rfl⟩
        go_wp2_with fail
        refine (pop_some _ B bm env (a :: s) 0 hm (by simp; omega)).mono ?_
        rintro e w1 ⟨rfl, hm1, hb1, hk1⟩
        go_wp2_with fail
        refine (pop_some _ B bm env s a hm1 (by omega)).mono ?_
        rintro e w2 ⟨rfl, hm2, hb2, hk2⟩
        go_wp2_with fail
        refine (push_any _ B bm env s 0 hm2 (by omega)).mono ?_
        rintro e w3 ⟨rfl, hm3, hb3, hk3⟩
        go_wp2
        go_end0
        refine ⟨(hb1.trans hb2).trans hb3, (hk1.trans hk2).trans hk3, ?_⟩
        simp [Lv.step, Lv.tkOk]
        exact hm3
      · have hbb : (b == 0) = false := by simpa using hb
        go_enter Tryz.func136, Tryz.ntmps136
        go_wp2_with fail
        refine (needZero_yes 0 _ rfl).mono ?_
        rintro e w' ⟨rfl, rfl⟩
        go_wp2_with fail
        refine (pop_some _ B bm env (a :: s) b hm (by simp; omega)).mono ?_
        rintro e w1 ⟨rfl, hm1, hb1, hk1⟩
        go_wp2_with fail
        refine (pop_some _ B bm env s a hm1 (by omega)).mono ?_
        rintro e w2 ⟨rfl, hm2, hb2, hk2⟩
        go_wp2_with fail
        all_goals
          refine (push_any _ B bm env s _ hm2 (by omega)).mono ?_
          rintro e w3 ⟨rfl, hm3, hb3, hk3⟩
          go_wp2
          go_end0
          refine ⟨(hb1.trans hb2).trans hb3, (hk1.trans hk2).trans hk3, ?_⟩
          rw [imax_step env s a b hb]
          refine ⟨rfl, ?_⟩
          first | (rw [show max a b = b by omega]; exact hm3) | (rw [show max a b = a by omega]; exact hm3)
  · go_enter Tryz.func136, Tryz.ntmps136
    go_wp2_with fail
    refine (needZero_no n _ T pv h hE).mono ?_
    rintro e w' ⟨rfl, rfl⟩
    refine ⟨rfl, Below.refl _ _, Keeps.refl _, ?_⟩
    rw [tk_no env st n 3 (by omega) h]
    rfl

set_option maxHeartbeats 800000 in
theorem param_any (hm : Mach w B bm env st) (hs : st.length ≤ 900) (hE : ErrAt w T pv) :
    Calls Tryz.prog 137 #[.pointer (some ⟨bm, 0, none⟩), .int .i64 n] w (Stepped w B bm env (Lv.step env (4, n) st) T pv) := by
  by_cases h : 0 ≤ n ∧ n < 5
  · obtain ⟨h0, h5⟩ := h
    have hcell : w.cell? ⟨bm, n.toNat, none⟩ = some (.int .i64 (env.getD n.toNat 0)) := by
      obtain ⟨_, he, A, c, hblk, _⟩ := hm
      exact (hblk.cell _).trans (mach_env env _ he _ (by omega))
    go_enter Tryz.func137, Tryz.ntmps137
    go_wp2_with fail
    refine (push_any _ B bm env st _ hm (by omega)).mono ?_
    rintro e w' ⟨rfl, hm', hb, hk⟩
    go_wp2
    go_end0
    refine ⟨hb, hk, ?_⟩
    simp [Lv.step, Lv.tkOk, h0, h5]
    simpa using hm'
  · unfold ErrAt at hE
    have hno : Lv.step env (4, n) st = none := by
      have : Lv.tkOk (4, n) = false := by
        rw [Bool.eq_false_iff]; intro hk; simp [Lv.tkOk] at hk; omega
      simp [Lv.step, this]
    rw [hno]
    have HN := Lib.hid hno
    clear hno
    by_cases h0 : n < 0
    · go_enter Tryz.func137, Tryz.ntmps137
      go_wp2
      exact ⟨rfl, Below.refl _ _, Keeps.refl _, rfl⟩
    · have h5 : 5 ≤ n := by omega
      clear h
      go_enter Tryz.func137, Tryz.ntmps137
      go_wp2
      exact ⟨rfl, Below.refl _ _, Keeps.refl _, rfl⟩
end
end Go.Proofs.YtgebjnoicgmdoaaGreatDoor
