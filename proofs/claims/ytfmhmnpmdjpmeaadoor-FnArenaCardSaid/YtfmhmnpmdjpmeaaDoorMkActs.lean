/- The draws of chapter 8: an arena with a node, with roots, with a level. -/
/- The machine's push and pop with a frame: every block but the machine's own two stays. -/
/- The five actions of the machine's table, as Acts.lean, with the frame KeepA. -/
import Derived.Test.YtfmhmnpmdjpmeaaDoorArDraw
import Derived.Test.YtfmhmnpmdjpmeaaDoorNMath
import Derived.Test.YtfmhmnpmdjpmeaaDoorActs
import Derived.Maps.AppendAt

namespace Go.Proofs.YtfmhmnpmdjpmeaaDoor
open Go.RowKit

set_option maxRecDepth 100000 in
set_option maxHeartbeats 4000000 in
theorem nodeAt_any (w : World) (bc : Nat) (A : Option Addr) (n c K : Nat) (hc : Cur w bc A n c K) (hK : K ≤ 200000) (hn : n ≤ 1048576) (Al : Option Addr) (m cl : Nat) (hm : m ≤ 300) :
    Calls Tryd.prog 79 #[.pointer (some ⟨bc, 0, none⟩), .slice Al m cl] w fun e w' => ∃ x : Int, e = .returned (.int .i64 x) ∧ Cur w' bc A n c (K + 10) ∧ Kp bc w w' := by
  have hlt := hc.lt
  go_enter Tryd.func79, Tryd.ntmps79
  go_wp2_with fail
  refine (once_any w bc A n c K 6 hc (by omega) (by omega) hn).mono ?_
  rintro e w1 ⟨r, rfl, hc1, hk1⟩
  have HC1 := Lib.hid hc1
  have HK1 := Lib.hid hk1
  have hlt1 := hc1.lt
  have hraw : r = true ∨ m = 0 ∨ (r = false ∧ 0 < m) := by
    cases r with
    | true => exact .inl rfl
    | false =>
      by_cases h : m = 0
      · exact .inr (.inl h)
      · exact .inr (.inr ⟨rfl, by omega⟩)
  clear hc hc1 hk1
  rcases hraw with rfl | rfl | ⟨rfl, hm0⟩
  · go_wp2_with fail
    refine (raw_any w1 bc A n c (K + 1) HC1.out (by omega) hn).mono ?_
    rintro e w2 ⟨x, rfl, hc2, hk2⟩
    obtain ⟨W3, hW3⟩ : ∃ X, w2.alloc (.cells #[.int .i64 (m : Int), .int .i64 x] 3) = X := ⟨_, rfl⟩
    have hb3 : Below w2.heap.size w2 W3 := by rw [← hW3]; exact (Below.refl _ _).alloc (Nat.le_refl _) _
    have hbl : Blk W3 w2.heap.size 3 #[.int .i64 (m : Int), .int .i64 x] := by rw [← hW3]; exact Blk.made _ _ _
    have HC3 : Hid (Cur W3 bc A n c (K + 1 + 2)) := hc2.below hb3
    have HK3 : Hid (Kp bc w W3) := (HK1.out.trans hk2).trans (Kp.of_below hb3)
    have HBL := Lib.hid hbl
    have hlt2 := hc2.lt
    clear hc2 hk2 hb3 hbl HC1 HK1
    go_wp2_with fail
    refine (pick_any W3 bc A n c (K + 1 + 2) 2 HC3.out (by omega) (by omega) hn).mono ?_
    rintro e w4 ⟨r2, rfl, hr2, hc4, hk4⟩
    have hr2' : r2 < 2 := by omega
    have hr2i : (r2 : Int) < 2 := by omega
    obtain ⟨z, hz⟩ := two_at (Kp.blk HBL.out hk4 (by omega)) hr2'
    have HC4 : Hid (Cur w4 bc A n c (K + 10)) := hc4.more (by omega)
    have HK4 := Lib.hid (HK3.out.trans hk4)
    clear hc4 hk4 HC3 HK3 HBL hW3 hr2
    go_wp2
    go_ret
    exact ⟨z, rfl, HC4.out, HK4.out⟩
  · go_wp2_with fail
    all_goals
      refine (raw_any w1 bc A n c (K + 1) HC1.out (by omega) hn).mono ?_
      rintro e w2 ⟨x, rfl, hc2, hk2⟩
      obtain ⟨W3, hW3⟩ : ∃ X, w2.alloc (.cells #[.int .i64 0, .int .i64 x] 3) = X := ⟨_, rfl⟩
      have hb3 : Below w2.heap.size w2 W3 := by rw [← hW3]; exact (Below.refl _ _).alloc (Nat.le_refl _) _
      have hbl : Blk W3 w2.heap.size 3 #[.int .i64 0, .int .i64 x] := by rw [← hW3]; exact Blk.made _ _ _
      have HC3 : Hid (Cur W3 bc A n c (K + 1 + 2)) := hc2.below hb3
      have HK3 : Hid (Kp bc w W3) := (HK1.out.trans hk2).trans (Kp.of_below hb3)
      have HBL := Lib.hid hbl
      have hlt2 := hc2.lt
      clear hc2 hk2 hb3 hbl HC1 HK1
      go_wp2_with fail
      refine (pick_any W3 bc A n c (K + 1 + 2) 2 HC3.out (by omega) (by omega) hn).mono ?_
      rintro e w4 ⟨r2, rfl, hr2, hc4, hk4⟩
      have hr2' : r2 < 2 := by omega
      have hr2i : (r2 : Int) < 2 := by omega
      obtain ⟨z, hz⟩ := two_at (Kp.blk HBL.out hk4 (by omega)) hr2'
      have HC4 : Hid (Cur w4 bc A n c (K + 10)) := hc4.more (by omega)
      have HK4 := Lib.hid (HK3.out.trans hk4)
      clear hc4 hk4 HC3 HK3 HBL hW3 hr2
      go_wp2
      go_ret
      exact ⟨z, rfl, HC4.out, HK4.out⟩
  · have hne : ((m : Int) == 0) = false := by simp; omega
    go_wp2_with fail
    refine (pick_any w1 bc A n c (K + 1) m HC1.out (by omega) (by omega) hn).mono ?_
    rintro e w2 ⟨r2, rfl, hr2, hc2, hk2⟩
    have HC4 : Hid (Cur w2 bc A n c (K + 10)) := hc2.more (by omega)
    have HK4 := Lib.hid (HK1.out.trans hk2)
    clear hc2 hk2 hr2
    go_wp2
    go_ret
    exact ⟨r2, rfl, HC4.out, HK4.out⟩

def DrawArPart (w : World) (e : Ending) (w' : World) : Prop :=
  ∃ (g cap m : Nat) (l : List Nd) (x : Int), e = .returned (.tuple #[.slice (some ⟨g, 0, none⟩) m cap, .int .i64 x]) ∧ m ≤ 300 ∧ OwnN w' w.heap.size (some ⟨g, 0, none⟩) m cap l ∧ Below w.heap.size w w'
def DrawArPut (w : World) (e : Ending) (w' : World) : Prop :=
  ∃ (g cap m : Nat) (l : List Nd) (g2 c2 m2 : Nat) (t : List (Int × Int)), e = .returned (.tuple #[.slice (some ⟨g, 0, none⟩) m cap, .slice (some ⟨g2, 0, none⟩) m2 c2]) ∧ m ≤ 300 ∧ m2 ≤ 25 ∧ OwnN w' w.heap.size (some ⟨g, 0, none⟩) m cap l ∧ OwnT w' w.heap.size (some ⟨g2, 0, none⟩) m2 c2 t ∧ Below w.heap.size w w'

set_option maxRecDepth 100000 in
set_option maxHeartbeats 4000000 in
theorem drawArPart_any (w : World) (B : Nat) (A : Option Addr) (n c : Nat) (hB : B ≤ w.heap.size) (hb : BytR w B A n) (hn : n ≤ 1048576) :
    Calls Tryd.prog 36 #[.slice A n c] w (DrawArPart w) := by
  go_enter Tryd.func36, Tryd.ntmps36
  go_wp2_with fail
  refine (open_any w B A n c hB hb hn).mono ?_
  rintro e w1 ⟨rfl, hb1, hc1⟩
  have hs1 := hb1.size
  have hlt := hc1.lt
  go_wp2_with fail
  refine (arena_any w1 w.heap.size A n c 0 hc1 (by omega) hn).mono ?_
  rintro e w2 ⟨g, cap, m, l, rfl, hm, ho2, hc2, hk2⟩
  have HB2 := Lib.hid (Kp.below hb1 hk2 (Nat.le_refl _) hs1)
  have HC2 := Lib.hid hc2
  have HO2 := Lib.hid ho2
  have hs2 : w.heap.size ≤ w2.heap.size := HB2.out.size
  clear hc1 hc2 hk2 ho2
  go_wp2_with fail
  refine (nodeAt_any w2 w.heap.size A n c (0 + 800) HC2.out (by omega) hn (some ⟨g, 0, none⟩) m cap hm).mono ?_
  rintro e w3 ⟨x, rfl, hc3, hk3⟩
  have HB3 := Lib.hid (Kp.below HB2.out hk3 (Nat.le_refl _) hs2)
  have HO3 : Hid (OwnN w3 w.heap.size (some ⟨g, 0, none⟩) m cap l) := own_base (Kp.own HO2.out hk3 hlt) hs1
  clear hc3 hk3 HO2 HC2
  go_wp2
  go_ret2
  exact ⟨g, cap, m, l, x, rfl, hm, HO3.out, HB3.out⟩

set_option maxRecDepth 100000 in
set_option maxHeartbeats 4000000 in
theorem drawArPut_any (w : World) (B : Nat) (A : Option Addr) (n c : Nat) (hB : B ≤ w.heap.size) (hb : BytR w B A n) (hn : n ≤ 1048576) :
    Calls Tryd.prog 30 #[.slice A n c] w (DrawArPut w) := by
  go_enter Tryd.func30, Tryd.ntmps30
  go_wp2_with fail
  refine (open_any w B A n c hB hb hn).mono ?_
  rintro e w1 ⟨rfl, hb1, hc1⟩
  have hs1 := hb1.size
  have hlt := hc1.lt
  go_wp2_with fail
  refine (arena_any w1 w.heap.size A n c 0 hc1 (by omega) hn).mono ?_
  rintro e w2 ⟨g, cap, m, l, rfl, hm, ho2, hc2, hk2⟩
  have HB2 := Lib.hid (Kp.below hb1 hk2 (Nat.le_refl _) hs1)
  have HC2 := Lib.hid hc2
  have HO2 := Lib.hid ho2
  have hs2 : w.heap.size ≤ w2.heap.size := HB2.out.size
  clear hc1 hc2 hk2 ho2
  go_wp2_with fail
  refine (badLevel_any w2 w.heap.size A n c (0 + 800) HC2.out (by omega) hn).mono ?_
  rintro e w3 ⟨g2, c2, t, rfl, ht1, ht2, ho3, hc3, hk3⟩
  have HB3 := Lib.hid (Kp.below HB2.out hk3 (Nat.le_refl _) hs2)
  have HO3 : Hid (OwnN w3 w.heap.size (some ⟨g, 0, none⟩) m cap l) := own_base (Kp.own HO2.out hk3 hlt) hs1
  have HT3 := Lib.hid (own_base (base' := w.heap.size) ho3 hs2)
  clear hc3 hk3 HO2 HC2 ho3
  go_wp2
  go_ret2
  exact ⟨g, cap, m, l, g2, c2, t.length, t, rfl, hm, ht2, HO3.out, HT3.out, HB3.out⟩

end Go.Proofs.YtfmhmnpmdjpmeaaDoor

namespace Go.Proofs.YtfmhmnpmdjpmeaaDoor
open Go.RowKit

/-- block g is that of the stack of the machine in block bm -/
def StkB (w : World) (bm g : Nat) : Prop := ∃ v, w.cell? ⟨bm, 5, none⟩ = some v ∧ v.ownBlock = some g
/-- all blocks but the machine's own stay, and its stack goes into none of them -/
def KeepA (bm : Nat) (w w' : World) : Prop := w.heap.size ≤ w'.heap.size ∧ ∀ g, g < w.heap.size → g ≠ bm → ¬ StkB w bm g → w'.heap[g]? = w.heap[g]? ∧ ¬ StkB w' bm g
theorem KeepA.refl (bm : Nat) (w : World) : KeepA bm w w := ⟨Nat.le_refl _, fun _ _ _ h => ⟨rfl, h⟩⟩
theorem KeepA.trans {bm : Nat} {w w' w'' : World} (h : KeepA bm w w') (h' : KeepA bm w' w'') : KeepA bm w w'' := ⟨Nat.le_trans h.1 h'.1, fun g h1 h2 h3 => by
  obtain ⟨e1, n1⟩ := h.2 g h1 h2 h3
  obtain ⟨e2, n2⟩ := h'.2 g (Nat.lt_of_lt_of_le h1 h.1) h2 n1
  exact ⟨e2.trans e1, n2⟩⟩
theorem KeepA.below {bm : Nat} {w w' : World} (hm : bm < w.heap.size) (hb : Below w.heap.size w w') : KeepA bm w w' := ⟨hb.size, fun g hg _ hn => ⟨hb.block g hg, fun ⟨v, h1, h2⟩ => hn ⟨v, (hb.cell (p := ⟨bm, 5, none⟩) hm).symm.trans h1, h2⟩⟩⟩
theorem keepA_set {w W w1 : World} {bm : Nat} {v v' : Value} (hb : Below w.heap.size w W) (hc : w.cell? ⟨bm, 5, none⟩ = some v) (hg : W.grownBy w1 v.ownBlock) (hat : v'.ownBlock = v.ownBlock ∨ v'.ownBlock = some W.heap.size)
    (hset : (w1.setCell ⟨bm, 5, none⟩ v').cell? ⟨bm, 5, none⟩ = some v') : KeepA bm w (w1.setCell ⟨bm, 5, none⟩ v') := by
  refine ⟨Nat.le_trans hb.size (Nat.le_trans hg.size ((Below.refl 0 w1).setCell (p := ⟨bm, 5, none⟩) (Nat.zero_le _) v').size), fun g h1 h2 h3 => ⟨?_, ?_⟩⟩
  · rw [Below.heap_setCell w1 ⟨bm, 5, none⟩ v' g (fun e => h2 e), hg.block g (Nat.lt_of_lt_of_le h1 hb.size) (fun e => h3 ⟨v, hc, e.symm⟩), hb.block g h1]
  · rintro ⟨u, hu, ho⟩
    rw [hset] at hu
    injection hu with hu
    subst hu
    rcases hat with h | h
    · exact h3 ⟨v, hc, h.symm.trans ho⟩
    · rw [h] at ho
      injection ho with ho
      have := hb.size
      omega

set_option maxHeartbeats 400000 in
theorem pushK_any (w : World) (B bm : Nat) (env st : List Int) (v : Int) (hm : Mach w B bm env st) (hs : st.length ≤ 1000) :
    Calls Tryd.prog 69 #[.pointer (some ⟨bm, 0, none⟩), .int .i64 v] w fun e w' => e = .returned (.tuple #[]) ∧ Mach w' B bm env (v :: st) ∧ Below B w w' ∧ KeepA bm w w' := by
  obtain ⟨hB, he, A, c, hblk, hown⟩ := hm
  have hlt := hblk.lt
  have hc5 : w.cell? ⟨bm, 5, none⟩ = some (.slice A st.length c) := (hblk.cell 5).trans (mach_stack env _ he)
  obtain ⟨i0, hi, hz0, hz1, hz2⟩ := info_parts info_int
  have HE := Lib.hid he
  clear he
  go_enter Tryd.func69, Tryd.ntmps69
  go_wp2_with (at_builtin; refine wpList_append_own_at _ rfl (.tmp 8) (.tmp 10) 40 rfl B 3 i0 (.int .i64 0) 1 8 Tryd.underlying40 hi hz0 hz1 hz2 rfl (by decide) (.slice A st.length c) st.length (st.reverse.map (Value.int .i64)) rfl (hown.alloc _) ⟨w.heap.size, 0, none⟩ 1 1 [.int .i64 v] rfl rfl ?c1 ?c2 ?c3 ?c4 ?c5 ?c6)
  case c1 => exact cell_one_new _ _ _
  case c2 => intro u hu; simp at hu; subst hu; rfl
  case c3 => unfold maxLen; omega
  case c4 => omega
  case c5 => simp; omega
  case c6 =>
    intro v' w1 hown' hgrow _ hat
    obtain ⟨g, cap', rfl⟩ : ∃ g cap', v' = .slice (some ⟨g, 0, none⟩) (st.length + 1) cap' := by
      rcases hown'.2 with ⟨_, h⟩ | ⟨g, cap', _, h, _⟩
      · omega
      · exact ⟨g, cap', h⟩
    have hap := own_apart hown hblk (by decide)
    have hblk1 : Blk w1 bm 96 (machCells env (.slice A st.length c)) := (hblk.alloc _).grown hgrow (fun h => hap h.symm)
    have hk : w1.cell? ⟨bm, 5, none⟩ = some (.slice A st.length c) := (hblk1.cell 5).trans (mach_stack env _ HE.out)
    have hf := hblk1.thawed 5
    have hbel : Below B w w1 := (((Below.refl _ _).alloc (by omega) _)).grown hgrow (by simp; omega) (fun k h => (hown.lt k h).1)
    have hown2 := own_store (p := ⟨bm, 5, none⟩) hown' (own_apart hown' hblk1 (by decide)) (.slice (some ⟨g, 0, none⟩) (st.length + 1) cap')
    have hblk2 := hblk1.put 5 (.slice (some ⟨g, 0, none⟩) (st.length + 1) cap')
    have hbel2 := hbel.setCell (p := ⟨bm, 5, none⟩) hB (.slice (some ⟨g, 0, none⟩) (st.length + 1) cap')
    have hset : (w1.setCell ⟨bm, 5, none⟩ (.slice (some ⟨g, 0, none⟩) (st.length + 1) cap')).cell? ⟨bm, 5, none⟩ = some (.slice (some ⟨g, 0, none⟩) (st.length + 1) cap') := by
      have h := hblk2.cell 5
      rw [mach_put env _ _ HE.out] at h
      exact h.trans (mach_stack env _ HE.out)
    have hkp2 : KeepA bm w (w1.setCell ⟨bm, 5, none⟩ (.slice (some ⟨g, 0, none⟩) (st.length + 1) cap')) := keepA_set ((Below.refl _ _).alloc (Nat.le_refl _) _) hc5 hgrow (by simpa using hat) hset
    have H2 := Lib.hid hown2
    have H3 := Lib.hid hblk2
    have H4 := Lib.hid hkp2
    clear hkp2 hset hat
    clear hown2 hblk2 hgrow hown' hown hap
    go_wp2
    go_end0
    refine ⟨rfl, ⟨hB, HE.out, some ⟨g, 0, none⟩, cap', ?_, ?_⟩, hbel2, H4.out⟩
    · have h3 := H3.out
      rw [mach_put env _ _ HE.out] at h3
      exact h3
    · have h2 := H2.out
      simpa using h2
set_option maxHeartbeats 400000 in
theorem popK_some (w : World) (B bm : Nat) (env st : List Int) (v : Int) (hm : Mach w B bm env (v :: st)) (hs : st.length ≤ 1000) :
    Calls Tryd.prog 72 #[.pointer (some ⟨bm, 0, none⟩)] w fun e w' => e = .returned (.int .i64 v) ∧ Mach w' B bm env st ∧ Below B w w' ∧ KeepA bm w w' := by
  obtain ⟨hB, he, A, c, hblk, hown⟩ := hm
  have hlt := hblk.lt
  obtain ⟨g, rfl⟩ : ∃ g, A = some ⟨g, 0, none⟩ := by
    rcases hown.2 with ⟨_, h⟩ | ⟨g, cap', _, h, _⟩
    · simp at h
    · injection h with h1; exact ⟨g, h1⟩
  have hcap : st.length + 1 ≤ c := by
    rcases hown.2 with ⟨_, h⟩ | ⟨g, cap', _, h, _, _, h1, _⟩
    · simp at h
    · injection h with _ _ h3; simpa [h3] using h1
  have hc5 : w.cell? ⟨bm, 5, none⟩ = some (.slice (some ⟨g, 0, none⟩) (st.length + 1) c) := (hblk.cell 5).trans (mach_stack env _ he)
  have hcv : w.cell? ⟨g, st.length, none⟩ = some (.int .i64 v) := by
    have h := hown.cells (g := g) rfl st.length (.int .i64 v) (by simp)
    have hadd : (⟨g, 0, none⟩ : Addr).add st.length = ⟨g, st.length, none⟩ := by unfold Addr.add; split <;> simp_all
    rw [hadd] at h
    exact h
  have hf := hblk.thawed 5
  have hown1 := own_pop (n := st.length) (xs := st.reverse.map (Value.int .i64)) (x := .int .i64 v) (by simpa using hown)
  have H2 := Lib.hid (own_store (p := ⟨bm, 5, none⟩) hown1 (own_apart hown1 hblk (by decide)) (.slice (some ⟨g, 0, none⟩) st.length c))
  have H3 := Lib.hid (hblk.put 5 (.slice (some ⟨g, 0, none⟩) st.length c))
  have hset : (w.setCell ⟨bm, 5, none⟩ (.slice (some ⟨g, 0, none⟩) st.length c)).cell? ⟨bm, 5, none⟩ = some (.slice (some ⟨g, 0, none⟩) st.length c) := by
    have h := (hblk.put 5 (.slice (some ⟨g, 0, none⟩) st.length c)).cell 5
    rw [mach_put env _ _ he] at h
    exact h.trans (mach_stack env _ he)
  have H4 : Hid (KeepA bm w (w.setCell ⟨bm, 5, none⟩ (.slice (some ⟨g, 0, none⟩) st.length c))) := keepA_set (Below.refl _ _) hc5 (World.grownBy.refl w _) (.inl rfl) hset
  clear hset
  have HE := Lib.hid he
  clear he hown hown1
  go_enter Tryd.func72, Tryd.ntmps72
  go_wp2
  go_ret
  refine ⟨rfl, ⟨hB, HE.out, some ⟨g, 0, none⟩, c, ?_, ?_⟩, (Below.refl _ _).setCell (p := ⟨bm, 5, none⟩) hB _, H4.out⟩
  · have h3 := H3.out
    rw [mach_put env _ _ HE.out] at h3
    exact h3
  · exact H2.out

end Go.Proofs.YtfmhmnpmdjpmeaaDoor

namespace Go.Proofs.YtfmhmnpmdjpmeaaDoor
open Go.RowKit

def SteppedK (w : World) (B bm : Nat) (env : List Int) (r : Option (List Int)) (T : TypeId) (pv : Value) (e : Ending) (w' : World) : Prop :=
  Below B w w' ∧ KeepA bm w w' ∧ match r with
    | some st' => e = .returned (.tuple #[]) ∧ Mach w' B bm env st'
    | none => e = Bad T pv

section
variable (w : World) (B bm : Nat) (env st : List Int) (T : TypeId) (pv : Value) (n : Int)

set_option maxHeartbeats 400000 in
theorem zeroK_any (hm : Mach w B bm env st) (hs : st.length ≤ 900) (hE : ErrAt w T pv) :
    Calls Tryd.prog 100 #[.pointer (some ⟨bm, 0, none⟩), .int .i64 n] w (SteppedK w B bm env (Lv.step env (0, n) st) T pv) := by
  by_cases h : n = 0
  · subst h
    go_enter Tryd.func100, Tryd.ntmps100
    go_wp2_with fail
    refine (needZero_yes 0 _ rfl).mono ?_
    rintro e w' ⟨rfl, rfl⟩
    go_wp2_with fail
    refine (pushK_any _ B bm env st 0 hm (by omega)).mono ?_
    rintro e w' ⟨rfl, hm', hb, hk⟩
    go_wp2
    go_end0
    exact ⟨hb, hk, rfl, hm'⟩
  · go_enter Tryd.func100, Tryd.ntmps100
    go_wp2_with fail
    refine (needZero_no n _ T pv h hE).mono ?_
    rintro e w' ⟨rfl, rfl⟩
    refine ⟨rfl, Below.refl _ _, KeepA.refl _ _, ?_⟩
    rw [tk_no env st n 0 (by omega) h]
    rfl

set_option maxHeartbeats 400000 in
theorem succK_any (hm : Mach w B bm env st) (hs : st.length ≤ 900) (hv : ∀ x ∈ st, 0 ≤ x ∧ x ≤ 100000) (hE : ErrAt w T pv) :
    Calls Tryd.prog 101 #[.pointer (some ⟨bm, 0, none⟩), .int .i64 n] w (SteppedK w B bm env (Lv.step env (1, n) st) T pv) := by
  by_cases h : n = 0
  · subst h
    rcases st with _ | ⟨a, s⟩
    · clear hv
      go_enter Tryd.func101, Tryd.ntmps101
      go_wp2_with fail
      refine (needZero_yes 0 _ rfl).mono ?_
      rintro e w' ⟨rfl, rfl⟩
      go_wp2_with fail
      refine (pop_none _ B bm env T pv hm hE).mono ?_
      rintro e w' ⟨rfl, rfl⟩
      exact ⟨rfl, Below.refl _ _, KeepA.refl _ _, rfl⟩
    · have hva := hv a (by simp)
      have ha0 := hva.1
      have ha1 := hva.2
      clear hv hva
      simp only [List.length_cons] at hs
      go_enter Tryd.func101, Tryd.ntmps101
      go_wp2_with fail
      refine (needZero_yes 0 _ rfl).mono ?_
      rintro e w' ⟨rfl, rfl⟩
      go_wp2_with fail
      refine (popK_some _ B bm env s a hm (by omega)).mono ?_
      rintro e w1 ⟨rfl, hm1, hb1, hk1⟩
      go_wp2_with fail
      refine (pushK_any _ B bm env s (a + 1) hm1 (by omega)).mono ?_
      rintro e w2 ⟨rfl, hm2, hb2, hk2⟩
      go_wp2
      go_end0
      exact ⟨hb1.trans hb2, hk1.trans hk2, rfl, hm2⟩
  · clear hv
    go_enter Tryd.func101, Tryd.ntmps101
    go_wp2_with fail
    refine (needZero_no n _ T pv h hE).mono ?_
    rintro e w' ⟨rfl, rfl⟩
    refine ⟨rfl, Below.refl _ _, KeepA.refl _ _, ?_⟩
    rw [tk_no env st n 1 (by omega) h]
    rfl

set_option maxHeartbeats 800000 in
theorem maxK_any (hB : 0 < B) (hm : Mach w B bm env st) (hs : st.length ≤ 900) (hE : ErrAt w T pv) :
    Calls Tryd.prog 102 #[.pointer (some ⟨bm, 0, none⟩), .int .i64 n] w (SteppedK w B bm env (Lv.step env (2, n) st) T pv) := by
  by_cases h : n = 0
  · subst h
    rcases st with _ | ⟨b, _ | ⟨a, s⟩⟩
    · go_enter Tryd.func102, Tryd.ntmps102
      go_wp2_with fail
      refine (needZero_yes 0 _ rfl).mono ?_
      rintro e w' ⟨rfl, rfl⟩
      go_wp2_with fail
      refine (pop_none _ B bm env T pv hm hE).mono ?_
      rintro e w' ⟨rfl, rfl⟩
      exact ⟨rfl, Below.refl _ _, KeepA.refl _ _, rfl⟩
    · go_enter Tryd.func102, Tryd.ntmps102
      go_wp2_with fail
      refine (needZero_yes 0 _ rfl).mono ?_
      rintro e w' ⟨rfl, rfl⟩
      go_wp2_with fail
      refine (popK_some _ B bm env [] b hm (by simp)).mono ?_
      rintro e w1 ⟨rfl, hm1, hb1, hk1⟩
      go_wp2_with fail
      refine (pop_none _ B bm env T pv hm1 (hE.below hb1 hB)).mono ?_
      rintro e w' ⟨rfl, rfl⟩
      exact ⟨rfl, hb1, hk1, rfl⟩
    · simp only [List.length_cons] at hs
      go_enter Tryd.func102, Tryd.ntmps102
      go_wp2_with fail
      refine (needZero_yes 0 _ rfl).mono ?_
      rintro e w' ⟨rfl, rfl⟩
      go_wp2_with fail
      refine (popK_some _ B bm env (a :: s) b hm (by simp; omega)).mono ?_
      rintro e w1 ⟨rfl, hm1, hb1, hk1⟩
      go_wp2_with fail
      refine (popK_some _ B bm env s a hm1 (by omega)).mono ?_
      rintro e w2 ⟨rfl, hm2, hb2, hk2⟩
      go_wp2_with fail
      all_goals
        refine (pushK_any _ B bm env s _ hm2 (by omega)).mono ?_
        rintro e w3 ⟨rfl, hm3, hb3, hk3⟩
        go_wp2
        go_end0
        refine ⟨(hb1.trans hb2).trans hb3, (hk1.trans hk2).trans hk3, ?_⟩
        rw [max_step]
        refine ⟨rfl, ?_⟩
        first | (rw [show max a b = b by omega]; exact hm3) | (rw [show max a b = a by omega]; exact hm3)
  · go_enter Tryd.func102, Tryd.ntmps102
    go_wp2_with fail
    refine (needZero_no n _ T pv h hE).mono ?_
    rintro e w' ⟨rfl, rfl⟩
    refine ⟨rfl, Below.refl _ _, KeepA.refl _ _, ?_⟩
    rw [tk_no env st n 2 (by omega) h]
    rfl

set_option maxHeartbeats 800000 in
theorem imaxK_any (hB : 0 < B) (hm : Mach w B bm env st) (hs : st.length ≤ 900) (hE : ErrAt w T pv) :
    Calls Tryd.prog 103 #[.pointer (some ⟨bm, 0, none⟩), .int .i64 n] w (SteppedK w B bm env (Lv.step env (3, n) st) T pv) := by
  by_cases h : n = 0
  · subst h
    rcases st with _ | ⟨b, _ | ⟨a, s⟩⟩
    · go_enter Tryd.func103, Tryd.ntmps103
      go_wp2_with fail
      refine (needZero_yes 0 _ rfl).mono ?_
      rintro e w' ⟨rfl, rfl⟩
      go_wp2_with fail
      refine (pop_none _ B bm env T pv hm hE).mono ?_
      rintro e w' ⟨rfl, rfl⟩
      exact ⟨rfl, Below.refl _ _, KeepA.refl _ _, rfl⟩
    · go_enter Tryd.func103, Tryd.ntmps103
      go_wp2_with fail
      refine (needZero_yes 0 _ rfl).mono ?_
      rintro e w' ⟨rfl, rfl⟩
      go_wp2_with fail
      refine (popK_some _ B bm env [] b hm (by simp)).mono ?_
      rintro e w1 ⟨rfl, hm1, hb1, hk1⟩
      go_wp2_with fail
      refine (pop_none _ B bm env T pv hm1 (hE.below hb1 hB)).mono ?_
      rintro e w' ⟨rfl, rfl⟩
      exact ⟨rfl, hb1, hk1, rfl⟩
    · simp only [List.length_cons] at hs
      by_cases hb : b = 0
      · subst hb
        go_enter Tryd.func103, Tryd.ntmps103
        go_wp2_with fail
        refine (needZero_yes 0 _ rfl).mono ?_
        rintro e w' ⟨rfl, rfl⟩
        go_wp2_with fail
        refine (popK_some _ B bm env (a :: s) 0 hm (by simp; omega)).mono ?_
        rintro e w1 ⟨rfl, hm1, hb1, hk1⟩
        go_wp2_with fail
        refine (popK_some _ B bm env s a hm1 (by omega)).mono ?_
        rintro e w2 ⟨rfl, hm2, hb2, hk2⟩
        go_wp2_with fail
        refine (pushK_any _ B bm env s 0 hm2 (by omega)).mono ?_
        rintro e w3 ⟨rfl, hm3, hb3, hk3⟩
        go_wp2
        go_end0
        refine ⟨(hb1.trans hb2).trans hb3, (hk1.trans hk2).trans hk3, ?_⟩
        simp [Lv.step, Lv.tkOk]
        exact hm3
      · have hbb : (b == 0) = false := by simpa using hb
        go_enter Tryd.func103, Tryd.ntmps103
        go_wp2_with fail
        refine (needZero_yes 0 _ rfl).mono ?_
        rintro e w' ⟨rfl, rfl⟩
        go_wp2_with fail
        refine (popK_some _ B bm env (a :: s) b hm (by simp; omega)).mono ?_
        rintro e w1 ⟨rfl, hm1, hb1, hk1⟩
        go_wp2_with fail
        refine (popK_some _ B bm env s a hm1 (by omega)).mono ?_
        rintro e w2 ⟨rfl, hm2, hb2, hk2⟩
        go_wp2_with fail
        all_goals
          refine (pushK_any _ B bm env s _ hm2 (by omega)).mono ?_
          rintro e w3 ⟨rfl, hm3, hb3, hk3⟩
          go_wp2
          go_end0
          refine ⟨(hb1.trans hb2).trans hb3, (hk1.trans hk2).trans hk3, ?_⟩
          rw [imax_step env s a b hb]
          refine ⟨rfl, ?_⟩
          first | (rw [show max a b = b by omega]; exact hm3) | (rw [show max a b = a by omega]; exact hm3)
  · go_enter Tryd.func103, Tryd.ntmps103
    go_wp2_with fail
    refine (needZero_no n _ T pv h hE).mono ?_
    rintro e w' ⟨rfl, rfl⟩
    refine ⟨rfl, Below.refl _ _, KeepA.refl _ _, ?_⟩
    rw [tk_no env st n 3 (by omega) h]
    rfl

set_option maxHeartbeats 800000 in
theorem paramK_any (hm : Mach w B bm env st) (hs : st.length ≤ 900) (hE : ErrAt w T pv) :
    Calls Tryd.prog 104 #[.pointer (some ⟨bm, 0, none⟩), .int .i64 n] w (SteppedK w B bm env (Lv.step env (4, n) st) T pv) := by
  by_cases h : 0 ≤ n ∧ n < 5
  · obtain ⟨h0, h5⟩ := h
    have hcell : w.cell? ⟨bm, n.toNat, none⟩ = some (.int .i64 (env.getD n.toNat 0)) := by
      obtain ⟨_, he, A, c, hblk, _⟩ := hm
      exact (hblk.cell _).trans (mach_env env _ he _ (by omega))
    go_enter Tryd.func104, Tryd.ntmps104
    go_wp2_with fail
    refine (pushK_any _ B bm env st _ hm (by omega)).mono ?_
    rintro e w' ⟨rfl, hm', hb, hk⟩
    go_wp2
    go_end0
    refine ⟨hb, hk, ?_⟩
    simp [Lv.step, Lv.tkOk, h0, h5]
    simpa using hm'
  · unfold ErrAt at hE
    have hno : Lv.step env (4, n) st = none := by
      have : Lv.tkOk (4, n) = false := by
        rw [Bool.eq_false_iff]; intro hk; simp [Lv.tkOk] at hk; omega
      simp [Lv.step, this]
    rw [hno]
    have HN := Lib.hid hno
    clear hno
    by_cases h0 : n < 0
    · go_enter Tryd.func104, Tryd.ntmps104
      go_wp2
      exact ⟨rfl, Below.refl _ _, KeepA.refl _ _, rfl⟩
    · have h5 : 5 ≤ n := by omega
      clear h
      go_enter Tryd.func104, Tryd.ntmps104
      go_wp2
      exact ⟨rfl, Below.refl _ _, KeepA.refl _ _, rfl⟩
end
end Go.Proofs.YtfmhmnpmdjpmeaaDoor
