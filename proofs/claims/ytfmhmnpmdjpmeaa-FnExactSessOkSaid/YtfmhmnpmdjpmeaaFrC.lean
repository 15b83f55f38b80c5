/- The laws' copies of frames and sessions, and their comparison. -/
import Derived.Test.YtfmhmnpmdjpmeaaNMath

namespace Go.Proofs.Ytfmhmnpmdjpmeaa
open Go.RowKit
open Cs (Cn)

theorem IntOwn.belowF {w w' : World} {g n B : Nat} {l : List Int} (h : IntOwn w g n l) (hb : Below B w w') (hg : g < B) : IntOwn w' g n l := by
  obtain ⟨hl, cs, hblk, rest⟩ := h
  exact ⟨hl, cs, hblk.below hb hg, rest⟩
theorem IntOwn.ltF {w : World} {g n : Nat} {l : List Int} (h : IntOwn w g n l) : g < w.heap.size := by obtain ⟨_, cs, hblk, _⟩ := h; exact hblk.lt
theorem IntOwn.putF {w : World} {g n : Nat} {l : List Int} {p : Addr} (h : IntOwn w g n l) (hp : g ≠ p.block) (v : Value) : IntOwn (w.setCell p v) g n l := by
  obtain ⟨hl, cs, hblk, rest⟩ := h
  exact ⟨hl, cs, hblk.other hp v, rest⟩
theorem ConOwn.putF {w : World} {g n : Nat} {l : List Cn} {p : Addr} (h : ConOwn w g n l) (hp : g ≠ p.block) (v : Value) : ConOwn (w.setCell p v) g n l := by
  obtain ⟨hl, cs, hblk, rest⟩ := h
  exact ⟨hl, cs, hblk.other hp v, rest⟩

set_option maxRecDepth 100000 in
set_option maxHeartbeats 1600000 in
theorem toFrame_any (w : World) (B : Nat) (A : Option Addr) (n c : Nat) (C : Option Addr) (m d : Nat) (la : List Int) (lb : List Cn) (hB : B ≤ w.heap.size) (h1 : IntR w B A n la) (h2 : ConR w B C m lb) (hn : n ≤ 1048576) (hm : m ≤ 1048576) :
    Calls Try.prog 65 #[.agg #[.slice A n c, .slice C m d]] w fun e w' => ∃ g1 g2, e = .returned (.agg #[.slice (some ⟨g1, 0, none⟩) n n, .slice (some ⟨g2, 0, none⟩) m m]) ∧ w.heap.size ≤ g1 ∧ w.heap.size ≤ g2 ∧ Below w.heap.size w w' ∧ IntOwn w' g1 n la ∧ ConOwn w' g2 m lb := by
  obtain ⟨W3, hW3⟩ : ∃ W, ((w.alloc (.cells #[.slice A n c, .slice C m d] 95)).alloc (.cells #[.slice none 0 0, .slice none 0 0] 74)).alloc (.cells #[.slice none 0 0, .slice none 0 0] 74) = W := ⟨_, rfl⟩
  have hb3 : Below w.heap.size w W3 := by rw [← hW3]; exact (((Below.refl _ _).alloc (Nat.le_refl _) _).alloc (by simp) _).alloc (by simp; omega) _
  have hs3 : W3.heap.size = w.heap.size + 1 + 1 + 1 := by rw [← hW3]; simp
  have k0 : Blk W3 w.heap.size 95 #[.slice A n c, .slice C m d] := by rw [← hW3]; exact ((Blk.made w _ _).alloc _).alloc _
  have k1 : Blk W3 (w.heap.size + 1) 74 #[.slice none 0 0, .slice none 0 0] := by
    have h := (Blk.made (w.alloc (.cells #[.slice A n c, .slice C m d] 95)) 74 #[.slice none 0 0, .slice none 0 0]).alloc (.cells #[.slice none 0 0, .slice none 0 0] 74)
    rw [World.size_alloc] at h
    rw [← hW3]; exact h
  have k2 : Blk W3 (w.heap.size + 1 + 1) 74 #[.slice none 0 0, .slice none 0 0] := by
    have h := Blk.made ((w.alloc (.cells #[.slice A n c, .slice C m d] 95)).alloc (.cells #[.slice none 0 0, .slice none 0 0] 74)) 74 #[.slice none 0 0, .slice none 0 0]
    rw [World.size_alloc, World.size_alloc] at h
    rw [← hW3]; exact h
  have H1 := Lib.hid (h1.below (hb3.mono hB))
  have H2 := Lib.hid (h2.below (hb3.mono hB))
  have HK0 := Lib.hid k0
  have HK1 := Lib.hid k1
  have HK2 := Lib.hid k2
  have HB3 := Lib.hid hb3
  have HS3 := Lib.hid hs3
  have c0 : W3.cell? ⟨w.heap.size, 0, none⟩ = some (.slice A n c) := k0.cell 0
  clear k0 k1 k2 hb3 h1 h2 hs3
  go_enter Try.func65, Try.ntmps65
  go_wp2_with fail
  clear hW3 c0
  refine (toIntS_any W3 B A n c la (by have := HS3.out; omega) H1.out hn).mono ?_
  rintro e w4 ⟨rfl, hb4, ho4⟩
  have hs3' := HS3.out
  have q0 := HK0.out.below hb4 (by omega)
  have q1 := HK1.out.below hb4 (by omega)
  have q2 := HK2.out.below hb4 (by omega)
  have hs4 := hb4.size
  obtain ⟨G1, hG1⟩ : ∃ G, W3.heap.size = G := ⟨_, rfl⟩
  rw [hG1] at ho4 hb4 hs3' hs4 ⊢
  have HGA : Hid (w.heap.size + 1 + 1 < G1 ∧ w.heap.size + 1 + 1 < w4.heap.size) := ⟨by omega, by omega⟩
  have e0 : w4.cell? ⟨w.heap.size + 1 + 1, 0, none⟩ = some (.slice none 0 0) := q2.cell 0
  have f0 := q2.thawed 0
  obtain ⟨W5, hW5⟩ : ∃ W, (w4.setCell ⟨w.heap.size + 1 + 1, 0, none⟩ (.slice (some ⟨G1, 0, none⟩) n n)) = W := ⟨_, rfl⟩
  have hb34 : Below w.heap.size W3 w4 := hb4.mono (by omega)
  have hb5 : Below w.heap.size w4 W5 := by rw [← hW5]; exact ((Below.refl _ _).setCell (p := ⟨w.heap.size + 1 + 1, 0, none⟩) (by show w.heap.size ≤ w.heap.size + 1 + 1; omega) _)
  have p2 : Blk W5 (w.heap.size + 1 + 1) 74 #[.slice (some ⟨G1, 0, none⟩) n n, .slice none 0 0] := by rw [← hW5]; exact (q2.put 0 _)
  have p1 : Blk W5 (w.heap.size + 1) 74 #[.slice none 0 0, .slice none 0 0] := by rw [← hW5]; exact (q1.other (by simp) _)
  have p0 : Blk W5 w.heap.size 95 #[.slice A n c, .slice C m d] := by rw [← hW5]; exact (q0.other (by simp; omega) _)
  have o5 : IntOwn W5 G1 n la := by rw [← hW5]; exact (ho4.putF (by simp; omega) _)
  have hs5 : W5.heap.size = w4.heap.size := by rw [← hW5]; simp
  have c2 : W5.cell? ⟨w.heap.size, 1, none⟩ = some (.slice C m d) := p0.cell 1
  have HB5 := Lib.hid ((HB3.out.trans hb34).trans hb5)
  have H2' := Lib.hid ((H2.out.below (hb34.mono hB)).below (hb5.mono hB))
  have HP1 := Lib.hid p1
  have HP2 := Lib.hid p2
  have HO5 := Lib.hid o5
  have HS5 := Lib.hid hs5
  clear q0 q1 q2 p0 p1 p2 ho4 hb4 hb34 hb5 o5 hs5 hs4 hs3' hG1 HS3 HK0 HK1 HK2
  go_wp2_with fail
  clear hW5 c2 e0 f0
  refine (toConS_any W5 B C m d lb (by have := HB5.out.size; omega) H2'.out hm).mono ?_
  rintro e w6 ⟨rfl, hb6, ho6⟩
  have hl1 := HP2.out.lt
  have hl0 := HO5.out.ltF
  have r1 := HP1.out.below hb6 (by omega)
  have r2 := HP2.out.below hb6 (by omega)
  have o6 := HO5.out.belowF hb6 hl0
  have hs6 := hb6.size
  have hb6w := HB5.out.trans (hb6.mono HB5.out.size)
  obtain ⟨G2, hG2⟩ : ∃ G, W5.heap.size = G := ⟨_, rfl⟩
  rw [hG2] at ho6 hl0 hl1 ⊢
  have x0 : w6.cell? ⟨w.heap.size + 1 + 1, 0, none⟩ = some (.slice (some ⟨G1, 0, none⟩) n n) := r2.cell 0
  have x1 : w6.cell? ⟨w.heap.size + 1 + 1, 1, none⟩ = some (.slice none 0 0) := r2.cell 1
  have y0 : w6.cell? ⟨w.heap.size + 1, 0, none⟩ = some (.slice none 0 0) := r1.cell 0
  have y1 : w6.cell? ⟨w.heap.size + 1, 1, none⟩ = some (.slice none 0 0) := r1.cell 1
  have fx1 := r2.thawed 1
  have fy0 := r1.thawed 0
  have fy1 := r1.thawed 1
  have HR1 := Lib.hid r1
  have HO6 := Lib.hid o6
  have HOB := Lib.hid ho6
  have HB6 := Lib.hid hb6w
  have HG : Hid (w.heap.size + 1 + 1 < G1 ∧ w.heap.size + 1 + 1 < G2) := ⟨HGA.out.1, by rw [← hG2, HS5.out]; exact HGA.out.2⟩
  clear r1 r2 o6 ho6 hb6w hb6 hG2 hs6 hl0 hl1
  go_wp2
  have hr := ((HR1.out.other (p := ⟨w.heap.size + 1 + 1, 1, none⟩) (by simp) (.slice (some ⟨G2, 0, none⟩) m m)).put 0 (.slice (some ⟨G1, 0, none⟩) n n)).put 1 (.slice (some ⟨G2, 0, none⟩) m m)
  have r0 := hr.cell 0
  have r1 := hr.cell 1
  have hbf := ((HB6.out.setCell (p := ⟨w.heap.size + 1 + 1, 1, none⟩) (by show w.heap.size ≤ w.heap.size + 1 + 1; omega) (.slice (some ⟨G2, 0, none⟩) m m)).setCell (p := ⟨w.heap.size + 1, 0, none⟩) (by show w.heap.size ≤ w.heap.size + 1; omega) (.slice (some ⟨G1, 0, none⟩) n n)).setCell (p := ⟨w.heap.size + 1, 1, none⟩) (by show w.heap.size ≤ w.heap.size + 1; omega) (.slice (some ⟨G2, 0, none⟩) m m)
  have hg := HG.out
  have ho1 := ((HO6.out.putF (p := ⟨w.heap.size + 1 + 1, 1, none⟩) (by simp; omega) (.slice (some ⟨G2, 0, none⟩) m m)).putF (p := ⟨w.heap.size + 1, 0, none⟩) (by simp; omega) (.slice (some ⟨G1, 0, none⟩) n n)).putF (p := ⟨w.heap.size + 1, 1, none⟩) (by simp; omega) (.slice (some ⟨G2, 0, none⟩) m m)
  have ho2 := ((HOB.out.putF (p := ⟨w.heap.size + 1 + 1, 1, none⟩) (by simp; omega) (.slice (some ⟨G2, 0, none⟩) m m)).putF (p := ⟨w.heap.size + 1, 0, none⟩) (by simp; omega) (.slice (some ⟨G1, 0, none⟩) n n)).putF (p := ⟨w.heap.size + 1, 1, none⟩) (by simp; omega) (.slice (some ⟨G2, 0, none⟩) m m)
  simp at r0 r1
  exact bodyPost_ret (v := .agg #[.slice (some ⟨G1, 0, none⟩) n n, .slice (some ⟨G2, 0, none⟩) m m]) (by simp [results, Try.results65, go_sem, r0, r1]) rfl ⟨G1, G2, rfl, by omega, by omega, hbf, ho1, ho2⟩

/-- the row of frames in block G: the first k of n are there, all in blocks past it -/
def FOwn (wr : World) (G n k : Nat) (fs : List Fm) : Prop :=
  ∃ ga gb : Nat → Nat, (∀ i, i < k → G < ga i ∧ ga i < wr.heap.size ∧ G < gb i ∧ gb i < wr.heap.size) ∧
    (∃ cs, Blk wr G 74 cs ∧ cs.size = n * 2 ∧ ∀ i, i < k → cs[i * 2]? = some (.slice (some ⟨ga i, 0, none⟩) (fs.getD i fm0).1.length (fs.getD i fm0).1.length) ∧ cs[i * 2 + 1]? = some (.slice (some ⟨gb i, 0, none⟩) (fs.getD i fm0).2.length (fs.getD i fm0).2.length)) ∧
    ∀ i, i < k → IntOwn wr (ga i) (fs.getD i fm0).1.length (fs.getD i fm0).1 ∧ ConOwn wr (gb i) (fs.getD i fm0).2.length (fs.getD i fm0).2
theorem FOwn.put {wr : World} {G n k : Nat} {fs : List Fm} (h : FOwn wr G n k fs) {p : Addr} (hp : p.block < G) (v : Value) : FOwn (wr.setCell p v) G n k fs := by
  obtain ⟨ga, gb, h4, ⟨cs, hblk, hs, hc⟩, h7⟩ := h
  refine ⟨ga, gb, fun i hi => by simpa using h4 i hi, ⟨cs, hblk.other (by omega) v, hs, hc⟩, fun i hi => ?_⟩
  have := h4 i hi
  exact ⟨(h7 i hi).1.putF (by omega) v, (h7 i hi).2.putF (by omega) v⟩
theorem FOwn.below {wr w' : World} {G n k B : Nat} {fs : List Fm} (h : FOwn wr G n k fs) (hb : Below B wr w') (hB : wr.heap.size ≤ B) : FOwn w' G n k fs := by
  obtain ⟨ga, gb, h4, ⟨cs, hblk, hs, hc⟩, h7⟩ := h
  have hz := hb.size
  have hl := hblk.lt
  refine ⟨ga, gb, fun i hi => by have := h4 i hi; omega, ⟨cs, hblk.below hb (by omega), hs, hc⟩, fun i hi => ?_⟩
  have := h4 i hi
  exact ⟨(h7 i hi).1.belowF hb (by omega), (h7 i hi).2.below hb (by omega)⟩
theorem FOwn.lt {wr : World} {G n k : Nat} {fs : List Fm} (h : FOwn wr G n k fs) : G < wr.heap.size := by obtain ⟨_, _, _, ⟨_, hblk, _⟩, _⟩ := h; exact hblk.lt
theorem FOwn.reads {wr : World} {G n : Nat} {fs : List Fm} (h : FOwn wr G n n fs) (hl : fs.length = n) (hm : fbulk fs ≤ 1048576) : FrR wr wr.heap.size (some ⟨G, 0, none⟩) n fs := by
  obtain ⟨ga, gb, h4, ⟨cs, hblk, hs, hc⟩, h7⟩ := h
  refine ⟨hl, fun _ => ⟨G, 0, rfl, hblk.lt, fun k hk => ?_⟩⟩
  obtain ⟨a0, a1⟩ := hc k hk
  obtain ⟨t1, t2⟩ := h7 k hk
  have hg := ftot_get fs k (by omega)
  have h4k := h4 k hk
  unfold fbulk at hm
  refine ⟨some ⟨ga k, 0, none⟩, (fs.getD k fm0).1.length, (fs.getD k fm0).1.length, some ⟨gb k, 0, none⟩, (fs.getD k fm0).2.length, (fs.getD k fm0).2.length, ?_, ?_, ?_, t2.reads.more (by omega), by omega, by omega, Nat.le_refl _, by simp⟩
  · rw [Nat.zero_add, hblk.cell]; exact a0
  · rw [Nat.zero_add, hblk.cell]; exact a1
  · exact t1.reads.more (by omega)
/-- the row of frames that is being filled: the first k of them are there -/
def FFill (w : World) (n k : Nat) (fs : List Fm) (wr : World) : Prop := Below w.heap.size w wr ∧ FOwn wr w.heap.size n k fs
theorem ffill_step {w wr w1 : World} {n k g1 g2 : Nat} {fs : List Fm} {x : List Int} {y : List Cn} (ht : fs.getD k fm0 = (x, y)) (h : FFill w n k fs wr) (hb : Below wr.heap.size wr w1) (hk : k < n) (hg1 : wr.heap.size ≤ g1) (hg2 : wr.heap.size ≤ g2) (ho1 : IntOwn w1 g1 x.length x) (ho2 : ConOwn w1 g2 y.length y) :
    FFill w n (k + 1) fs ((w1.setCell ⟨w.heap.size, k * 2, none⟩ (.slice (some ⟨g1, 0, none⟩) x.length x.length)).setCell ⟨w.heap.size, k * 2 + 1, none⟩ (.slice (some ⟨g2, 0, none⟩) y.length y.length)) := by
  obtain ⟨hbel, ga, gb, h4, ⟨cs, hblk, hs, hc⟩, h7⟩ := h
  have hz := hbel.size
  have hz1 := hb.size
  have hwl := hblk.lt
  have hl1 := ho1.ltF
  have hl2 := ho2.lt
  have hblk1 := hblk.below hb hblk.lt
  refine ⟨((hbel.trans (hb.mono hz)).setCell (p := ⟨w.heap.size, k * 2, none⟩) (Nat.le_refl _) _).setCell (p := ⟨w.heap.size, k * 2 + 1, none⟩) (Nat.le_refl _) _, fun i => if i = k then g1 else ga i, fun i => if i = k then g2 else gb i, ?_, ⟨_, (hblk1.put _ _).put _ _, by simp [hs], ?_⟩, ?_⟩
  · intro i hi
    simp only [World.size_setCell]
    by_cases e : i = k
    · simp only [e, if_true]; omega
    · have := h4 i (by omega)
      simp only [e, if_false]; omega
  · intro i hi
    by_cases e : i = k
    · subst e
      rw [ht]
      simp only [if_true]
      refine ⟨?_, ?_⟩
      · rw [Array.getElem?_setIfInBounds_ne (by omega), Array.getElem?_setIfInBounds_self_of_lt (by omega)]
      · rw [Array.getElem?_setIfInBounds_self_of_lt (by simp; omega)]
    · simp only [e, if_false]
      obtain ⟨a0, a1⟩ := hc i (by omega)
      refine ⟨?_, ?_⟩
      · rw [Array.getElem?_setIfInBounds_ne (by omega), Array.getElem?_setIfInBounds_ne (by omega)]; exact a0
      · rw [Array.getElem?_setIfInBounds_ne (by omega), Array.getElem?_setIfInBounds_ne (by omega)]; exact a1
  · intro i hi
    by_cases e : i = k
    · subst e
      rw [ht]
      simp only [if_true]
      exact ⟨(ho1.putF (by show _ ≠ w.heap.size; omega) _).putF (by show _ ≠ w.heap.size; omega) _, (ho2.putF (by show _ ≠ w.heap.size; omega) _).putF (by show _ ≠ w.heap.size; omega) _⟩
    · simp only [e, if_false]
      have := h4 i (by omega)
      obtain ⟨t1, t2⟩ := h7 i (by omega)
      exact ⟨((t1.belowF hb this.2.1).putF (by show _ ≠ w.heap.size; omega) _).putF (by show _ ≠ w.heap.size; omega) _, ((t2.below hb this.2.2.2).putF (by show _ ≠ w.heap.size; omega) _).putF (by show _ ≠ w.heap.size; omega) _⟩
theorem info_frame : (Try.prog.info? 74).map (fun i => (i.zero, i.size, i.bytes)) = some (some (.agg #[.slice none 0 0, .slice none 0 0]), 2, 48) := by kernel_rfl
set_option maxRecDepth 100000 in
set_option maxHeartbeats 1600000 in
theorem toFrameS_any (w : World) (B : Nat) (A : Option Addr) (n c : Nat) (fs : List Fm) (hB : B ≤ w.heap.size) (hl : FrR w B A n fs) (hm : fbulk fs ≤ 1048576) :
    Calls Try.prog 47 #[.slice A n c] w fun e w' => e = .returned (.slice (some ⟨w.heap.size, 0, none⟩) n n) ∧ Below w.heap.size w w' ∧ FOwn w' w.heap.size n n fs := by
  obtain ⟨i0, hi, hz0, hz1, hz2⟩ := info_parts info_frame
  have hln := hl.1
  have hn : n ≤ 1048576 := by unfold fbulk at hm; omega
  have hmk : ∀ wx, (Instr.makeSlice 40 (.int .i64 (n : Int)) (.int .i64 (n : Int))).run Try.prog wx = .ok (.slice (some ⟨wx.heap.size, 0, none⟩) n n) (wx.alloc (.cells (madeCells (Value.agg #[.slice none 0 0, .slice none 0 0]).cells (n * 2)) 74)) := by
    intro wx
    have hr := run_make (P := Try.prog) wx 40 74 i0 _ Try.underlying40 hi hz0 .i64 .i64 n n (by omega) (by omega) (by rw [hz2]; omega) (by omega)
    simp only [Int.toNat_natCast, hz1] at hr
    exact hr
  have hstart : FFill w n 0 fs (w.alloc (.cells (madeCells (Value.agg #[.slice none 0 0, .slice none 0 0]).cells (n * 2)) 74)) :=
    ⟨(Below.refl _ _).alloc (Nat.le_refl _) _, fun _ => 0, fun _ => 0, fun i hi => absurd hi (by omega), ⟨_, Blk.made _ _ _, by simp [madeCells], fun i hi => absurd hi (by omega)⟩, fun i hi => absurd hi (by omega)⟩
  have HS := Lib.hid hstart
  clear hstart hi hz0 hz1 hz2
  go_enter Try.func47, Try.ntmps47
  go_wp2
  go_loopw [4] (fun i wr => ∃ k : Nat, k ≤ n ∧ i = .int .i64 k ∧ FFill w n k fs wr) (fun i _ => n - (intOf i).toNat)
  case atStart => exact ⟨0, Nat.zero_le _, rfl, HS.out⟩
  case round =>
    obtain ⟨k, hk, rfl, hF⟩ := hrel
    have hbel := hF.1
    have hszr := hbel.size
    have HF := Lib.hid hF
    clear hF
    by_cases hlt : k < n
    · have hlr := hl.below (hbel.mono hB)
      obtain ⟨b, off, rfl, hb, hc⟩ := hlr.2 (by omega)
      obtain ⟨Ak, nk, ck, Ck, mk, dk, c0, c1, t1, t2, _, _, _⟩ := hc k hlt
      have hgk := ftot_get fs k (by omega)
      obtain ⟨t, ht⟩ : ∃ t, fs.getD k fm0 = t := ⟨_, rfl⟩
      rw [ht] at t1 t2 hgk
      obtain ⟨x, y⟩ := t
      have hnk : x.length = nk := t1.1
      have hmk2 : y.length = mk := t2.1
      have hnk2 : nk ≤ 1048576 ∧ mk ≤ 1048576 := by simp only at hgk; unfold fbulk at hm; omega
      obtain ⟨hx1, hx2⟩ := hnk2
      have HT1 := Lib.hid t1
      have HT2 := Lib.hid t2
      have HT := Lib.hid ht
      have HNK := Lib.hid hnk
      have HMK := Lib.hid hmk2
      have HL := Lib.hid hl
      clear hl hlr hc t1 t2 hgk hnk hmk2 ht
      go_wp2_with fail
      refine (toFrame_any wr B Ak nk ck Ck mk dk x y (by omega) HT1.out HT2.out hx1 hx2).mono ?_
      rintro e w1 ⟨g1, g2, rfl, hg1, hg2, hb1, ho1, ho2⟩
      obtain ⟨_, ga, gb, _, ⟨cs, hblk, hs, _⟩, _⟩ := HF.out
      have hblk1 := hblk.below hb1 hblk.lt
      have hlt1 := hblk1.lt
      have f0 := hblk1.thawed (k * 2)
      have f1 := hblk1.thawed (k * 2 + 1)
      obtain ⟨v0, e0⟩ : ∃ v1, w1.cell? ⟨w.heap.size, k * 2, none⟩ = some v1 := ⟨_, (hblk1.cell _).trans (Array.getElem?_eq_getElem (by omega))⟩
      obtain ⟨v1, e1⟩ : ∃ v1, w1.cell? ⟨w.heap.size, k * 2 + 1, none⟩ = some v1 := ⟨_, (hblk1.cell _).trans (Array.getElem?_eq_getElem (by omega))⟩
      have HN := Lib.hid (ffill_step HT.out HF.out hb1 hlt hg1 hg2 (by rw [HNK.out]; exact ho1) (by rw [HMK.out]; exact ho2))
      rw [HNK.out, HMK.out] at HN
      clear hblk hblk1 hs HF ho1 ho2 hb1
      go_wp2
      go_roundw
      case rel => exact ⟨k + 1, by omega, by go_num, HN.out⟩
      case measure => simp [intOf]; omega
    · obtain rfl : k = n := by omega
      go_wp2
      go_ret
      exact ⟨rfl, hbel, HF.out.2⟩

set_option maxRecDepth 100000 in
set_option maxHeartbeats 1600000 in
theorem toSess_any (w : World) (B : Nat) (A : Option Addr) (n c : Nat) (fs : List Fm) (hB : B ≤ w.heap.size) (hl : FrR w B A n fs) (hm : fbulk fs ≤ 1048576) :
    Calls Try.prog 20 #[.agg #[.slice A n c]] w fun e w' => ∃ g, e = .returned (.agg #[.slice (some ⟨g, 0, none⟩) n n]) ∧ w.heap.size ≤ g ∧ Below w.heap.size w w' ∧ FOwn w' g n n fs := by
  obtain ⟨W3, hW3⟩ : ∃ W, ((w.alloc (.cells #[.slice A n c] 37)).alloc (.cells #[.slice none 0 0] 42)).alloc (.cells #[.slice none 0 0] 42) = W := ⟨_, rfl⟩
  have hb3 : Below w.heap.size w W3 := by rw [← hW3]; exact (((Below.refl _ _).alloc (Nat.le_refl _) _).alloc (by simp) _).alloc (by simp; omega) _
  have hs3 : W3.heap.size = w.heap.size + 1 + 1 + 1 := by rw [← hW3]; simp
  have k0 : Blk W3 w.heap.size 37 #[.slice A n c] := by rw [← hW3]; exact ((Blk.made w _ _).alloc _).alloc _
  have k1 : Blk W3 (w.heap.size + 1) 42 #[.slice none 0 0] := by
    have h := (Blk.made (w.alloc (.cells #[.slice A n c] 37)) 42 #[.slice none 0 0]).alloc (.cells #[.slice none 0 0] 42)
    rw [World.size_alloc] at h
    rw [← hW3]; exact h
  have k2 : Blk W3 (w.heap.size + 1 + 1) 42 #[.slice none 0 0] := by
    have h := Blk.made ((w.alloc (.cells #[.slice A n c] 37)).alloc (.cells #[.slice none 0 0] 42)) 42 #[.slice none 0 0]
    rw [World.size_alloc, World.size_alloc] at h
    rw [← hW3]; exact h
  have H1 := Lib.hid (hl.below (hb3.mono hB))
  have HK1 := Lib.hid k1
  have HK2 := Lib.hid k2
  have HB3 := Lib.hid hb3
  have HS3 := Lib.hid hs3
  have c0 : W3.cell? ⟨w.heap.size, 0, none⟩ = some (.slice A n c) := k0.cell 0
  clear k0 k1 k2 hb3 hl hs3
  go_enter Try.func20, Try.ntmps20
  go_wp2_with fail
  clear hW3 c0
  refine (toFrameS_any W3 B A n c fs (by have := HS3.out; omega) H1.out hm).mono ?_
  rintro e w4 ⟨rfl, hb4, hr4⟩
  have hs4 := hr4.lt
  have hs3' := HS3.out
  have q1 := HK1.out.below hb4 (by omega)
  have q2 := HK2.out.below hb4 (by omega)
  obtain ⟨G1, hG1⟩ : ∃ G, W3.heap.size = G := ⟨_, rfl⟩
  rw [hG1] at hr4 hb4 hs3' hs4 ⊢
  have e0 : w4.cell? ⟨w.heap.size + 1 + 1, 0, none⟩ = some (.slice none 0 0) := q2.cell 0
  have y0 : w4.cell? ⟨w.heap.size + 1, 0, none⟩ = some (.slice none 0 0) := q1.cell 0
  have f0 := q2.thawed 0
  have fy0 := q1.thawed 0
  have HQ1 := Lib.hid q1
  have HB4 := Lib.hid (HB3.out.trans (hb4.mono (by omega)))
  have HR4 := Lib.hid hr4
  have HG : Hid (w.heap.size + 1 + 1 < G1 ∧ G1 < w4.heap.size) := ⟨by omega, by omega⟩
  clear q1 q2 hr4 hb4 hs4 hs3' hG1 HS3 HK1 HK2 HB3 H1
  go_wp2
  have hr := (HQ1.out.other (p := ⟨w.heap.size + 1 + 1, 0, none⟩) (by simp) (.slice (some ⟨G1, 0, none⟩) n n)).put 0 (.slice (some ⟨G1, 0, none⟩) n n)
  have r0 := hr.cell 0
  simp at r0
  have hg := HG.out
  have hbf := (HB4.out.setCell (p := ⟨w.heap.size + 1 + 1, 0, none⟩) (by show w.heap.size ≤ w.heap.size + 1 + 1; omega) (.slice (some ⟨G1, 0, none⟩) n n)).setCell (p := ⟨w.heap.size + 1, 0, none⟩) (by show w.heap.size ≤ w.heap.size + 1; omega) (.slice (some ⟨G1, 0, none⟩) n n)
  have ho := (HR4.out.put (p := ⟨w.heap.size + 1 + 1, 0, none⟩) (by show w.heap.size + 1 + 1 < G1; omega) (.slice (some ⟨G1, 0, none⟩) n n)).put (p := ⟨w.heap.size + 1, 0, none⟩) (by show w.heap.size + 1 < G1; omega) (.slice (some ⟨G1, 0, none⟩) n n)
  exact bodyPost_ret (v := .agg #[.slice (some ⟨G1, 0, none⟩) n n]) (by simp [results, Try.results20, go_sem, r0]) rfl ⟨G1, rfl, by omega, hbf, ho⟩

set_option maxHeartbeats 1600000 in
theorem eqFrame_any (w : World) (B : Nat) (A1 A2 A3 A4 : Option Addr) (n m c1 c2 c3 c4 : Nat) (l : List Int) (l2 : List Cn) (hB : B ≤ w.heap.size) (h1 : IntR w B A1 n l) (h2 : IntR w B A2 n l) (h3 : ConR w B A3 m l2) (h4 : ConR w B A4 m l2) (hn : n ≤ 1048576) (hm : m ≤ 1048576) :
    Calls Try.prog 68 #[.agg #[.slice A1 n c1, .slice A3 m c3], .agg #[.slice A2 n c2, .slice A4 m c4]] w fun e w' => e = .returned (.bool true) ∧ Below w.heap.size w w' := by
  have hb : Below w.heap.size w ((w.alloc (.cells #[.slice A1 n c1, .slice A3 m c3] 74)).alloc (.cells #[.slice A2 n c2, .slice A4 m c4] 74)) := ((Below.refl _ _).alloc (Nat.le_refl _) _).alloc (by simp) _
  have HK1 := Lib.hid (h1.below (hb.mono hB))
  have HK2 := Lib.hid (h2.below (hb.mono hB))
  have HK3 := Lib.hid (h3.below (hb.mono hB))
  have HK4 := Lib.hid (h4.below (hb.mono hB))
  have k1 : Blk ((w.alloc (.cells #[.slice A1 n c1, .slice A3 m c3] 74)).alloc (.cells #[.slice A2 n c2, .slice A4 m c4] 74)) w.heap.size 74 #[.slice A1 n c1, .slice A3 m c3] := (Blk.made w 74 _).alloc _
  have k2 : Blk ((w.alloc (.cells #[.slice A1 n c1, .slice A3 m c3] 74)).alloc (.cells #[.slice A2 n c2, .slice A4 m c4] 74)) (w.heap.size + 1) 74 #[.slice A2 n c2, .slice A4 m c4] := by
    have h := Blk.made (w.alloc (.cells #[.slice A1 n c1, .slice A3 m c3] 74)) 74 #[.slice A2 n c2, .slice A4 m c4]
    rwa [World.size_alloc] at h
  have HB1 := Lib.hid k1
  have HB2 := Lib.hid k2
  have HB := Lib.hid hb
  clear hb h1 h2 h3 h4 k1 k2
  go_enter Try.func68, Try.ntmps68
  go_wp2_with fail
  refine (eqIntS_any _ B A1 A2 n n c1 c2 l l (by simp; omega) HK1.out HK2.out (by omega) (by omega)).mono ?_
  rintro e w1 ⟨rfl, hb1⟩
  rw [decide_eq_true rfl]
  simp only [World.size_alloc] at hb1
  have q1 := HB1.out.below hb1 (by omega)
  have q2 := HB2.out.below hb1 (by omega)
  have d3 : w1.cell? ⟨w.heap.size, 1, none⟩ = some (.slice A3 m c3) := q1.cell 1
  have d4 : w1.cell? ⟨w.heap.size + 1, 1, none⟩ = some (.slice A4 m c4) := q2.cell 1
  have HP1 := Lib.hid (HB.out.trans (hb1.mono (by omega)))
  have HK3' := Lib.hid (HK3.out.below (hb1.mono (by omega)))
  have HK4' := Lib.hid (HK4.out.below (hb1.mono (by omega)))
  have hs1 : w.heap.size + 1 + 1 ≤ w1.heap.size := by have := hb1.size; simpa only [World.size_alloc] using this
  clear q1 q2 hb1
  go_wp2_with fail
  refine (eqConS_any w1 B A3 A4 m m c3 c4 l2 l2 (by omega) HK3'.out HK4'.out (by omega) (by omega)).mono ?_
  rintro e w2 ⟨rfl, hb2⟩
  rw [decide_eq_true rfl]
  have HP2 := Lib.hid (HP1.out.trans (hb2.mono (by omega)))
  clear hb2
  go_wp2
  go_ret
  exact ⟨rfl, HP2.out⟩
set_option maxRecDepth 100000 in
set_option maxHeartbeats 1600000 in
theorem eqFrameS_any (w : World) (B : Nat) (A1 A2 : Option Addr) (n c1 c2 : Nat) (fs : List Fm) (hB : B ≤ w.heap.size) (h1 : FrR w B A1 n fs) (h2 : FrR w B A2 n fs) (hm : fbulk fs ≤ 1048576) :
    Calls Try.prog 49 #[.slice A1 n c1, .slice A2 n c2] w fun e w' => e = .returned (.bool true) ∧ Below w.heap.size w w' := by
  have hln := h1.1
  have hn : n ≤ 1048576 := by unfold fbulk at hm; omega
  have en : ((n : Int) != (n : Int)) = false := by simp
  go_enter Try.func49, Try.ntmps49
  go_wp2
  go_loopw [5] (fun i wr => ∃ k : Nat, k ≤ n ∧ i = .int .i64 k ∧ Below w.heap.size w wr) (fun i _ => n - (intOf i).toNat)
  case atStart => exact ⟨0, Nat.zero_le _, rfl, Below.refl _ _⟩
  case round =>
    obtain ⟨k, hk, rfl, hbel⟩ := hrel
    have hszr := hbel.size
    by_cases hlt : k < n
    · have l1 := h1.below (hbel.mono hB)
      have l2 := h2.below (hbel.mono hB)
      obtain ⟨b1, off1, rfl, hb1, hc1⟩ := l1.2 (by omega)
      obtain ⟨Ak, nk, ck, Ck, mk, dk, a0, a1, ta1, tb1, _, _, _⟩ := hc1 k hlt
      obtain ⟨b2, off2, rfl, hb2, hc2⟩ := l2.2 (by omega)
      obtain ⟨Ak', nk', ck', Ck', mk', dk', x0, x1, ta2, tb2, _, _, _⟩ := hc2 k hlt
      have hgk := ftot_get fs k (by omega)
      obtain rfl : nk' = nk := by rw [← ta1.1, ← ta2.1]
      obtain rfl : mk' = mk := by rw [← tb1.1, ← tb2.1]
      have hnk : nk' ≤ 1048576 ∧ mk' ≤ 1048576 := by rw [ta1.1, tb1.1] at hgk; unfold fbulk at hm; omega
      obtain ⟨hx1, hx2⟩ := hnk
      have HT1 := Lib.hid ta1
      have HT2 := Lib.hid ta2
      have HT3 := Lib.hid tb1
      have HT4 := Lib.hid tb2
      have HH1 := Lib.hid h1
      have HH2 := Lib.hid h2
      clear h1 h2 l1 l2 hc1 hc2 ta1 ta2 tb1 tb2 hgk
      go_wp2_with fail
      refine region_tail 8 (by kernel_rfl) (by kernel_rfl) ?_
      simp only [List.take_succ_cons, List.take_zero, List.drop_succ_cons, List.drop_zero]
      repeat still_step
      refine wpStill_nil ?_
      go_wp2_with fail
      refine (eqFrame_any wr.drew B _ _ _ _ nk' mk' _ _ _ _ _ _ (by simpa using Nat.le_trans hB hszr) HT1.out HT2.out HT3.out HT4.out hx1 hx2).mono ?_
      rintro e w1 ⟨rfl, hb1⟩
      have HB := Lib.hid (hbel.drew.trans (hb1.mono hszr))
      clear hb1
      go_wp2
      go_roundw
      case rel => exact ⟨k + 1, by omega, by go_num, HB.out⟩
      case measure => simp [intOf]; omega
    · obtain rfl : k = n := by omega
      go_wp2
      go_ret
      exact ⟨rfl, hbel⟩
set_option maxHeartbeats 800000 in
theorem eqSess_any (w : World) (B : Nat) (A1 A2 : Option Addr) (n c1 c2 : Nat) (fs : List Fm) (hB : B ≤ w.heap.size) (h1 : FrR w B A1 n fs) (h2 : FrR w B A2 n fs) (hm : fbulk fs ≤ 1048576) :
    Calls Try.prog 22 #[.agg #[.slice A1 n c1], .agg #[.slice A2 n c2]] w fun e w' => e = .returned (.bool true) ∧ Below w.heap.size w w' := by
  have hb : Below w.heap.size w ((w.alloc (.cells #[.slice A1 n c1] 42)).alloc (.cells #[.slice A2 n c2] 42)) := ((Below.refl _ _).alloc (Nat.le_refl _) _).alloc (by simp) _
  have HK1 := Lib.hid (h1.below (hb.mono hB))
  have HK2 := Lib.hid (h2.below (hb.mono hB))
  have HB := Lib.hid hb
  clear hb h1 h2
  go_enter Try.func22, Try.ntmps22
  go_wp2_with fail
  refine (eqFrameS_any _ B A1 A2 n c1 c2 fs (by simp; omega) HK1.out HK2.out hm).mono ?_
  rintro e w1 ⟨rfl, hb1⟩
  have HP := Lib.hid (HB.out.trans (hb1.mono (by simp; omega)))
  clear hb1
  go_wp2
  go_ret
  exact ⟨rfl, HP.out⟩
end Go.Proofs.Ytfmhmnpmdjpmeaa
