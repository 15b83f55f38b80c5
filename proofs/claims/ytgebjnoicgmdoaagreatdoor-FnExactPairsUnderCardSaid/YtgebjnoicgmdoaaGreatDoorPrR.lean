/- Words for memory: a slice that reads as pairs of levels; the laws' work on such slices: their size, a copy, equal. -/
import Derived.Test.YtgebjnoicgmdoaaGreatDoorPairS

namespace Go.Proofs.YtgebjnoicgmdoaaGreatDoor
open Go.RowKit

/-- the slice value '.slice A n c' reads as the pairs ps; what it is made of lies below block B -/
def PrR (w : World) (B : Nat) (A : Option Addr) (n : Nat) (ps : List Pr) : Prop :=
  ps.length = n ∧ (0 < n → ∃ b off, A = some ⟨b, off, none⟩ ∧ b < B ∧ ∀ k, k < n → ∃ Ak nk ck Ck mk dk,
    w.cell? ⟨b, off + k * 3, none⟩ = some (.slice Ak nk ck) ∧ w.cell? ⟨b, off + k * 3 + 1, none⟩ = some (.bool (ps.getD k pr0).2.1) ∧ w.cell? ⟨b, off + k * 3 + 2, none⟩ = some (.slice Ck mk dk) ∧
    TokR w B Ak nk (ps.getD k pr0).1 ∧ TokR w B Ck mk (ps.getD k pr0).2.2 ∧ (nk : Int) ≤ 9223372036854775807 ∧ (mk : Int) ≤ 9223372036854775807)
theorem PrR.below {w w' : World} {B n : Nat} {A : Option Addr} {ps : List Pr} (h : PrR w B A n ps) (hb : Below B w w') : PrR w' B A n ps :=
  ⟨h.1, fun h0 => by
    obtain ⟨b, off, rfl, hB, hc⟩ := h.2 h0
    refine ⟨b, off, rfl, hB, fun k hk => ?_⟩
    obtain ⟨Ak, nk, ck, Ck, mk, dk, c0, c1, c2, t1, t2, m1, m2⟩ := hc k hk
    exact ⟨Ak, nk, ck, Ck, mk, dk, (hb.cell (p := ⟨b, off + k * 3, none⟩) hB).trans c0, (hb.cell (p := ⟨b, off + k * 3 + 1, none⟩) hB).trans c1, (hb.cell (p := ⟨b, off + k * 3 + 2, none⟩) hB).trans c2, t1.below hb, t2.below hb, m1, m2⟩⟩
theorem PrR.more {w : World} {B B' n : Nat} {A : Option Addr} {ps : List Pr} (h : PrR w B A n ps) (hB : B ≤ B') : PrR w B' A n ps :=
  ⟨h.1, fun h0 => by
    obtain ⟨b, off, rfl, hb, hc⟩ := h.2 h0
    refine ⟨b, off, rfl, by omega, fun k hk => ?_⟩
    obtain ⟨Ak, nk, ck, Ck, mk, dk, c0, c1, c2, t1, t2, m⟩ := hc k hk
    exact ⟨Ak, nk, ck, Ck, mk, dk, c0, c1, c2, t1.more hB, t2.more hB, m⟩⟩
/-- the tokens of all pairs together -/
def ptot (ps : List Pr) : Nat := (ps.map fun p => p.1.length + p.2.2.length).sum
def pbulk (ps : List Pr) : Nat := ps.length + ptot ps
theorem ptot_take (ps : List Pr) (k : Nat) (hk : k < ps.length) : ptot (ps.take (k + 1)) = ptot (ps.take k) + ((ps.getD k pr0).1.length + (ps.getD k pr0).2.2.length) := by
  unfold ptot
  rw [List.take_succ_eq_append_getElem hk, List.map_append, List.sum_append]
  congr 1
  simp [List.getD_eq_getElem?_getD, List.getElem?_eq_getElem hk]
theorem ptot_le (ps : List Pr) (k : Nat) : ptot (ps.take k) ≤ ptot ps := by
  unfold ptot
  have h : ps.map (fun p => p.1.length + p.2.2.length) = (ps.take k).map (fun p => p.1.length + p.2.2.length) ++ (ps.drop k).map (fun p => p.1.length + p.2.2.length) := by rw [← List.map_append, List.take_append_drop]
  rw [h, List.sum_append]; exact Nat.le_add_right _ _
theorem ptot_get (ps : List Pr) (k : Nat) (hk : k < ps.length) : (ps.getD k pr0).1.length + (ps.getD k pr0).2.2.length ≤ ptot ps := by
  have h1 := ptot_take ps k hk
  have h2 := ptot_le ps (k + 1)
  omega

set_option maxHeartbeats 800000 in
theorem szPair_any (A : Option Addr) (n c : Nat) (b : Bool) (C : Option Addr) (m d : Nat) (left : Int) (w : World) (h0 : 0 ≤ left) (h1 : left ≤ 1048576) (hn : (n : Int) ≤ 9223372036854775807) (hm : (m : Int) ≤ 9223372036854775807) :
    Calls Tryz.prog 80 #[.agg #[.slice A n c, .bool b, .slice C m d], .int .i64 left] w fun e w' => e = .returned (.int .i64 (szR left (n + m))) ∧ Below w.heap.size w w' := by
  have hb := (Below.refl w.heap.size w).alloc (Nat.le_refl _) (.cells #[.slice A n c, .bool b, .slice C m d] 122)
  by_cases hlt : left < n
  · go_enter Tryz.func80, Tryz.ntmps80
    go_wp2_with fail
    refine (szTokS_any A n c left _ h0 h1 hn).mono ?_
    rintro e w' ⟨rfl, rfl⟩
    rw [if_pos (by omega)]
    go_wp2
    go_ret
    exact ⟨by rw [szR_pos (by omega)]; rfl, hb⟩
  · have hge : ¬ (left - (n : Int) < 0) := by omega
    by_cases hlt2 : left - n < m
    · go_enter Tryz.func80, Tryz.ntmps80
      go_wp2_with fail
      refine (szTokS_any A n c left _ h0 h1 hn).mono ?_
      rintro e w' ⟨rfl, rfl⟩
      rw [if_neg (by omega)]
      go_wp2_with fail
      refine (szTokS_any C m d (left - n) _ (by omega) (by omega) hm).mono ?_
      rintro e w' ⟨rfl, rfl⟩
      rw [if_pos (by omega)]
      go_wp2
      go_ret
      exact ⟨by rw [szR_pos (by omega)]; rfl, hb⟩
    · have hge2 : ¬ (left - (n : Int) - (m : Int) < 0) := by omega
      go_enter Tryz.func80, Tryz.ntmps80
      go_wp2_with fail
      refine (szTokS_any A n c left _ h0 h1 hn).mono ?_
      rintro e w' ⟨rfl, rfl⟩
      rw [if_neg (by omega)]
      go_wp2_with fail
      refine (szTokS_any C m d (left - n) _ (by omega) (by omega) hm).mono ?_
      rintro e w' ⟨rfl, rfl⟩
      rw [if_neg (by omega)]
      go_wp2
      go_ret
      refine ⟨?_, hb⟩
      rw [szR_neg (by omega), show left - ((n + m : Nat) : Int) = left - n - m by omega]
      rfl

set_option maxRecDepth 100000 in
set_option maxHeartbeats 1600000 in
theorem szPairS_any (w : World) (B : Nat) (A : Option Addr) (n c : Nat) (ps : List Pr) (left : Int) (hB : B ≤ w.heap.size) (hl : PrR w B A n ps) (hn : (n : Int) ≤ 9223372036854775807) (h0 : 0 ≤ left) (h1 : left ≤ 1048576) :
    Calls Tryz.prog 43 #[.slice A n c, .int .i64 left] w fun e w' => e = .returned (.int .i64 (szR left (pbulk ps))) ∧ Below w.heap.size w w' := by
  have hln := hl.1
  by_cases hbig : left < n
  · have HR : Hid (szR left (pbulk ps) = -1) := by show _ = _; rw [szR_pos (by unfold pbulk; omega)]
    go_enter Tryz.func43, Tryz.ntmps43
    go_wp2
    go_ret
    exact ⟨by rw [HR.out]; rfl, Below.refl _ _⟩
  · have hge : ¬ (left - (n : Int) < 0) := by omega
    go_enter Tryz.func43, Tryz.ntmps43
    go_wp2
    go_loopw [1, 5] (fun v i wr => ∃ k : Nat, k ≤ n ∧ i = .int .i64 k ∧ v = .int .i64 (left - n - (ptot (ps.take k) : Nat)) ∧ 0 ≤ left - n - (ptot (ps.take k) : Nat) ∧ Below w.heap.size w wr) (fun _ i _ => n - (intOf i).toNat)
    case atStart => exact ⟨0, Nat.zero_le _, rfl, by simp [ptot], by simp [ptot]; omega, Below.refl _ _⟩
    case round =>
      obtain ⟨k, hk, rfl, rfl, hpos, hbel⟩ := hrel
      have hszr := hbel.size
      by_cases hlt : k < n
      · have hlr := hl.below (hbel.mono hB)
        obtain ⟨b, off, rfl, hb, hc⟩ := hlr.2 (by omega)
        obtain ⟨Ak, nk, ck, Ck, mk, dk, c0, c1, c2, t1, t2, hnk, hmk⟩ := hc k hlt
        have htk := ptot_take ps k (by omega)
        rw [t1.1, t2.1] at htk
        have htl := ptot_le ps (k + 1)
        have HL := Lib.hid hl
        obtain ⟨T, hT⟩ : ∃ T, ptot (ps.take k) = T := ⟨_, rfl⟩
        rw [hT] at htk hpos ⊢
        obtain ⟨fb, hfb⟩ : ∃ t, (ps.getD k pr0).2.1 = t := ⟨_, rfl⟩
        rw [hfb] at c1
        have HK := Lib.hid htk
        have HLE := Lib.hid htl
        clear hl hlr hc t1 t2 hT htk htl hfb
        go_wp2_with fail
        refine (szPair_any Ak nk ck fb Ck mk dk (left - n - (T : Nat)) wr hpos (by omega) hnk hmk).mono ?_
        rintro e w1 ⟨rfl, hb1⟩
        have HB1 := Lib.hid (hbel.trans (hb1.mono hszr))
        clear hb1 hbel
        by_cases hs : left - n - (T : Nat) < ((nk + mk : Nat) : Int)
        · rw [szR_pos hs]
          have HR : Hid (szR left (pbulk ps) = -1) := by show _ = _; rw [szR_pos (by unfold pbulk; have := HK.out; have := HLE.out; omega)]
          go_wp2
          go_ret
          exact ⟨by rw [HR.out]; rfl, HB1.out⟩
        · rw [szR_neg hs]
          obtain ⟨z, hz⟩ : ∃ z : Int, left - n - (T : Nat) - ((nk + mk : Nat) : Int) = z := ⟨_, rfl⟩
          have hge2 : ¬ (z < 0) := by omega
          have HZ := Lib.hid hz
          rw [hz]
          clear hz
          go_wp2
          go_roundw
          case rel => exact ⟨k + 1, by omega, by go_num, by rw [HK.out, ← HZ.out]; congr 1; omega, by rw [HK.out]; have := HZ.out; omega, HB1.out⟩
          case measure => simp [intOf]; omega
      · obtain rfl : k = n := by omega
        have ht : ptot (ps.take k) = ptot ps := by rw [List.take_of_length_le (by omega)]
        rw [ht] at hpos ⊢
        have HR : Hid (szR left (pbulk ps) = left - k - (ptot ps : Nat)) := by show _ = _; rw [szR_neg (by unfold pbulk; omega)]; unfold pbulk; omega
        clear ht
        go_wp2
        go_ret
        exact ⟨by rw [HR.out]; rfl, hbel⟩

set_option maxRecDepth 100000 in
set_option maxHeartbeats 1600000 in
theorem toPair_any (w : World) (B : Nat) (A : Option Addr) (n c : Nat) (b : Bool) (C : Option Addr) (m d : Nat) (la lb : List (Int × Int)) (hB : B ≤ w.heap.size) (h1 : TokR w B A n la) (h2 : TokR w B C m lb) (hn : n ≤ 1048576) (hm : m ≤ 1048576) :
    Calls Tryz.prog 82 #[.agg #[.slice A n c, .bool b, .slice C m d]] w fun e w' => ∃ g1 g2, e = .returned (.agg #[.slice (some ⟨g1, 0, none⟩) n n, .bool b, .slice (some ⟨g2, 0, none⟩) m m]) ∧ w.heap.size ≤ g1 ∧ w.heap.size ≤ g2 ∧ Below w.heap.size w w' ∧ TokOwn w' g1 n la ∧ TokOwn w' g2 m lb := by
  obtain ⟨W3, hW3⟩ : ∃ W, ((w.alloc (.cells #[.slice A n c, .bool b, .slice C m d] 122)).alloc (.cells #[.slice none 0 0, .bool false, .slice none 0 0] 124)).alloc (.cells #[.slice none 0 0, .bool false, .slice none 0 0] 124) = W := ⟨_, rfl⟩
  have hb3 : Below w.heap.size w W3 := by rw [← hW3]; exact (((Below.refl _ _).alloc (Nat.le_refl _) _).alloc (by simp) _).alloc (by simp; omega) _
  have hs3 : W3.heap.size = w.heap.size + 1 + 1 + 1 := by rw [← hW3]; simp
  have k0 : Blk W3 w.heap.size 122 #[.slice A n c, .bool b, .slice C m d] := by rw [← hW3]; exact ((Blk.made w _ _).alloc _).alloc _
  have k1 : Blk W3 (w.heap.size + 1) 124 #[.slice none 0 0, .bool false, .slice none 0 0] := by
    have h := (Blk.made (w.alloc (.cells #[.slice A n c, .bool b, .slice C m d] 122)) 124 #[.slice none 0 0, .bool false, .slice none 0 0]).alloc (.cells #[.slice none 0 0, .bool false, .slice none 0 0] 124)
    rw [World.size_alloc] at h
    rw [← hW3]; exact h
  have k2 : Blk W3 (w.heap.size + 1 + 1) 124 #[.slice none 0 0, .bool false, .slice none 0 0] := by
    have h := Blk.made ((w.alloc (.cells #[.slice A n c, .bool b, .slice C m d] 122)).alloc (.cells #[.slice none 0 0, .bool false, .slice none 0 0] 124)) 124 #[.slice none 0 0, .bool false, .slice none 0 0]
    rw [World.size_alloc, World.size_alloc] at h
    rw [← hW3]; exact h
  have H1 := Lib.hid (h1.below (hb3.mono hB))
  have H2 := Lib.hid (h2.below (hb3.mono hB))
  have HK0 := Lib.hid k0
  have HK1 := Lib.hid k1
  have HK2 := Lib.hid k2
  have HB3 := Lib.hid hb3
  have HS3 := Lib.hid hs3
  have c0 : W3.cell? ⟨w.heap.size, 0, none⟩ = some (.slice A n c) := k0.cell 0
  clear k0 k1 k2 hb3 h1 h2 hs3
  go_enter Tryz.func82, Tryz.ntmps82
  go_wp2_with fail
  clear hW3 c0
  refine (toTokS_any W3 B A n c la (by have := HS3.out; omega) H1.out hn).mono ?_
  rintro e w4 ⟨rfl, hb4, ho4⟩
  have hs3' := HS3.out
  have q0 := HK0.out.below hb4 (by omega)
  have q1 := HK1.out.below hb4 (by omega)
  have q2 := HK2.out.below hb4 (by omega)
  have hs4 := hb4.size
  obtain ⟨G1, hG1⟩ : ∃ G, W3.heap.size = G := ⟨_, rfl⟩
  rw [hG1] at ho4 hb4 hs3' hs4 ⊢
  have HGA : Hid (w.heap.size + 1 + 1 < G1 ∧ w.heap.size + 1 + 1 < w4.heap.size) := ⟨by omega, by omega⟩
  have c1 : w4.cell? ⟨w.heap.size, 1, none⟩ = some (.bool b) := q0.cell 1
  have e0 : w4.cell? ⟨w.heap.size + 1 + 1, 0, none⟩ = some (.slice none 0 0) := q2.cell 0
  have e1 : w4.cell? ⟨w.heap.size + 1 + 1, 1, none⟩ = some (.bool false) := q2.cell 1
  have f0 := q2.thawed 0
  have f1 := q2.thawed 1
  obtain ⟨W5, hW5⟩ : ∃ W, (w4.setCell ⟨w.heap.size + 1 + 1, 0, none⟩ (.slice (some ⟨G1, 0, none⟩) n n)).setCell ⟨w.heap.size + 1 + 1, 1, none⟩ (.bool b) = W := ⟨_, rfl⟩
  have hb34 : Below w.heap.size W3 w4 := hb4.mono (by omega)
  have hb5 : Below w.heap.size w4 W5 := by rw [← hW5]; exact ((Below.refl _ _).setCell (p := ⟨w.heap.size + 1 + 1, 0, none⟩) (by show w.heap.size ≤ w.heap.size + 1 + 1; omega) _).setCell (p := ⟨w.heap.size + 1 + 1, 1, none⟩) (by show w.heap.size ≤ w.heap.size + 1 + 1; omega) _
  have p2 : Blk W5 (w.heap.size + 1 + 1) 124 #[.slice (some ⟨G1, 0, none⟩) n n, .bool b, .slice none 0 0] := by rw [← hW5]; exact (q2.put 0 _).put 1 _
  have p1 : Blk W5 (w.heap.size + 1) 124 #[.slice none 0 0, .bool false, .slice none 0 0] := by rw [← hW5]; exact (q1.other (by simp) _).other (by simp) _
  have p0 : Blk W5 w.heap.size 122 #[.slice A n c, .bool b, .slice C m d] := by rw [← hW5]; exact (q0.other (by simp; omega) _).other (by simp; omega) _
  have o5 : TokOwn W5 G1 n la := by rw [← hW5]; exact (ho4.put (by simp; omega) _).put (by simp; omega) _
  have hs5 : W5.heap.size = w4.heap.size := by rw [← hW5]; simp
  have c2 : W5.cell? ⟨w.heap.size, 2, none⟩ = some (.slice C m d) := p0.cell 2
  have HB5 := Lib.hid ((HB3.out.trans hb34).trans hb5)
  have H2' := Lib.hid ((H2.out.below (hb34.mono hB)).below (hb5.mono hB))
  have HP1 := Lib.hid p1
  have HP2 := Lib.hid p2
  have HO5 := Lib.hid o5
  have HS5 := Lib.hid hs5
  clear q0 q1 q2 p0 p1 p2 ho4 hb4 hb34 hb5 o5 hs5 hs4 hs3' hG1 HS3 HK0 HK1 HK2
  go_wp2_with fail
  clear hW5 c2 e0 e1 f0 f1 c1
  refine (toTokS_any W5 B C m d lb (by have := HB5.out.size; omega) H2'.out hm).mono ?_
  rintro e w6 ⟨rfl, hb6, ho6⟩
  have hl1 := HP2.out.lt
  have hl0 := HO5.out.tl
  have r1 := HP1.out.below hb6 (by omega)
  have r2 := HP2.out.below hb6 (by omega)
  have o6 := HO5.out.below hb6 hl0
  have hs6 := hb6.size
  have hb6w := HB5.out.trans (hb6.mono HB5.out.size)
  obtain ⟨G2, hG2⟩ : ∃ G, W5.heap.size = G := ⟨_, rfl⟩
  rw [hG2] at ho6 hl0 hl1 ⊢
  have x0 : w6.cell? ⟨w.heap.size + 1 + 1, 0, none⟩ = some (.slice (some ⟨G1, 0, none⟩) n n) := r2.cell 0
  have x1 : w6.cell? ⟨w.heap.size + 1 + 1, 1, none⟩ = some (.bool b) := r2.cell 1
  have x2 : w6.cell? ⟨w.heap.size + 1 + 1, 2, none⟩ = some (.slice none 0 0) := r2.cell 2
  have y0 : w6.cell? ⟨w.heap.size + 1, 0, none⟩ = some (.slice none 0 0) := r1.cell 0
  have y1 : w6.cell? ⟨w.heap.size + 1, 1, none⟩ = some (.bool false) := r1.cell 1
  have y2 : w6.cell? ⟨w.heap.size + 1, 2, none⟩ = some (.slice none 0 0) := r1.cell 2
  have fx2 := r2.thawed 2
  have fy0 := r1.thawed 0
  have fy1 := r1.thawed 1
  have fy2 := r1.thawed 2
  have HR1 := Lib.hid r1
  have HO6 := Lib.hid o6
  have HOB := Lib.hid ho6
  have HB6 := Lib.hid hb6w
  have HG : Hid (w.heap.size + 1 + 1 < G1 ∧ w.heap.size + 1 + 1 < G2) := ⟨HGA.out.1, by rw [← hG2, HS5.out]; exact HGA.out.2⟩
  clear r1 r2 o6 ho6 hb6w hb6 hG2 hs6 hl0 hl1
  go_wp2
  have hr := (((HR1.out.other (p := ⟨w.heap.size + 1 + 1, 2, none⟩) (by simp) (.slice (some ⟨G2, 0, none⟩) m m)).put 0 (.slice (some ⟨G1, 0, none⟩) n n)).put 1 (.bool b)).put 2 (.slice (some ⟨G2, 0, none⟩) m m)
  have r0 := hr.cell 0
  have r1 := hr.cell 1
  have r2 := hr.cell 2
  have hbf := (((HB6.out.setCell (p := ⟨w.heap.size + 1 + 1, 2, none⟩) (by show w.heap.size ≤ w.heap.size + 1 + 1; omega) (.slice (some ⟨G2, 0, none⟩) m m)).setCell (p := ⟨w.heap.size + 1, 0, none⟩) (by show w.heap.size ≤ w.heap.size + 1; omega) (.slice (some ⟨G1, 0, none⟩) n n)).setCell (p := ⟨w.heap.size + 1, 1, none⟩) (by show w.heap.size ≤ w.heap.size + 1; omega) (.bool b)).setCell (p := ⟨w.heap.size + 1, 2, none⟩) (by show w.heap.size ≤ w.heap.size + 1; omega) (.slice (some ⟨G2, 0, none⟩) m m)
  have hg := HG.out
  have ho1 := (((HO6.out.put (p := ⟨w.heap.size + 1 + 1, 2, none⟩) (by simp; omega) (.slice (some ⟨G2, 0, none⟩) m m)).put (p := ⟨w.heap.size + 1, 0, none⟩) (by simp; omega) (.slice (some ⟨G1, 0, none⟩) n n)).put (p := ⟨w.heap.size + 1, 1, none⟩) (by simp; omega) (.bool b)).put (p := ⟨w.heap.size + 1, 2, none⟩) (by simp; omega) (.slice (some ⟨G2, 0, none⟩) m m)
  have ho2 := (((HOB.out.put (p := ⟨w.heap.size + 1 + 1, 2, none⟩) (by simp; omega) (.slice (some ⟨G2, 0, none⟩) m m)).put (p := ⟨w.heap.size + 1, 0, none⟩) (by simp; omega) (.slice (some ⟨G1, 0, none⟩) n n)).put (p := ⟨w.heap.size + 1, 1, none⟩) (by simp; omega) (.bool b)).put (p := ⟨w.heap.size + 1, 2, none⟩) (by simp; omega) (.slice (some ⟨G2, 0, none⟩) m m)
  simp at r0 r1 r2
  exact bodyPost_ret (v := .agg #[.slice (some ⟨G1, 0, none⟩) n n, .bool b, .slice (some ⟨G2, 0, none⟩) m m]) (by simp [results, Tryz.results82, go_sem, r0, r1, r2]) rfl ⟨G1, G2, rfl, by omega, by omega, hbf, ho1, ho2⟩

/-- the row of pairs that is being filled: the first k of them are there -/
def PFill (w : World) (n k : Nat) (ps : List Pr) (wr : World) : Prop :=
  Below w.heap.size w wr ∧ ∃ ga gb : Nat → Nat, (∀ i, i < k → w.heap.size < ga i ∧ ga i < wr.heap.size ∧ w.heap.size < gb i ∧ gb i < wr.heap.size) ∧
    (∃ cs, Blk wr w.heap.size 124 cs ∧ cs.size = n * 3 ∧ ∀ i, i < k → cs[i * 3]? = some (.slice (some ⟨ga i, 0, none⟩) (ps.getD i pr0).1.length (ps.getD i pr0).1.length) ∧ cs[i * 3 + 1]? = some (.bool (ps.getD i pr0).2.1) ∧ cs[i * 3 + 2]? = some (.slice (some ⟨gb i, 0, none⟩) (ps.getD i pr0).2.2.length (ps.getD i pr0).2.2.length)) ∧
    ∀ i, i < k → TokOwn wr (ga i) (ps.getD i pr0).1.length (ps.getD i pr0).1 ∧ TokOwn wr (gb i) (ps.getD i pr0).2.2.length (ps.getD i pr0).2.2
theorem pfill_step {w wr w1 : World} {n k g1 g2 : Nat} {ps : List Pr} {x y : List (Int × Int)} {b : Bool} (ht : ps.getD k pr0 = (x, b, y)) (h : PFill w n k ps wr) (hb : Below wr.heap.size wr w1) (hk : k < n) (hg1 : wr.heap.size ≤ g1) (hg2 : wr.heap.size ≤ g2) (ho1 : TokOwn w1 g1 x.length x) (ho2 : TokOwn w1 g2 y.length y) :
    PFill w n (k + 1) ps (((w1.setCell ⟨w.heap.size, k * 3, none⟩ (.slice (some ⟨g1, 0, none⟩) x.length x.length)).setCell ⟨w.heap.size, k * 3 + 1, none⟩ (.bool b)).setCell ⟨w.heap.size, k * 3 + 2, none⟩ (.slice (some ⟨g2, 0, none⟩) y.length y.length)) := by
  obtain ⟨hbel, ga, gb, h4, ⟨cs, hblk, hs, hc⟩, h7⟩ := h
  have hz := hbel.size
  have hz1 := hb.size
  have hwl := hblk.lt
  have hl1 := ho1.tl
  have hl2 := ho2.tl
  have hblk1 := hblk.below hb hblk.lt
  refine ⟨(((hbel.trans (hb.mono hz)).setCell (p := ⟨w.heap.size, k * 3, none⟩) (Nat.le_refl _) _).setCell (p := ⟨w.heap.size, k * 3 + 1, none⟩) (Nat.le_refl _) _).setCell (p := ⟨w.heap.size, k * 3 + 2, none⟩) (Nat.le_refl _) _, fun i => if i = k then g1 else ga i, fun i => if i = k then g2 else gb i, ?_, ⟨_, ((hblk1.put _ _).put _ _).put _ _, by simp [hs], ?_⟩, ?_⟩
  · intro i hi
    simp only [World.size_setCell]
    by_cases e : i = k
    · simp only [e, if_true]; omega
    · have := h4 i (by omega)
      simp only [e, if_false]; omega
  · intro i hi
    by_cases e : i = k
    · subst e
      rw [ht]
      simp only [if_true]
      refine ⟨?_, ?_, ?_⟩
      · rw [Array.getElem?_setIfInBounds_ne (by omega), Array.getElem?_setIfInBounds_ne (by omega), Array.getElem?_setIfInBounds_self_of_lt (by omega)]
      · rw [Array.getElem?_setIfInBounds_ne (by omega), Array.getElem?_setIfInBounds_self_of_lt (by simp; omega)]
      · rw [Array.getElem?_setIfInBounds_self_of_lt (by simp; omega)]
    · simp only [e, if_false]
      obtain ⟨a0, a1, a2⟩ := hc i (by omega)
      refine ⟨?_, ?_, ?_⟩
      · rw [Array.getElem?_setIfInBounds_ne (by omega), Array.getElem?_setIfInBounds_ne (by omega), Array.getElem?_setIfInBounds_ne (by omega)]; exact a0
      · rw [Array.getElem?_setIfInBounds_ne (by omega), Array.getElem?_setIfInBounds_ne (by omega), Array.getElem?_setIfInBounds_ne (by omega)]; exact a1
      · rw [Array.getElem?_setIfInBounds_ne (by omega), Array.getElem?_setIfInBounds_ne (by omega), Array.getElem?_setIfInBounds_ne (by omega)]; exact a2
  · intro i hi
    have put3 : ∀ {g q : Nat} {t : List (Int × Int)}, TokOwn w1 g q t → g ≠ w.heap.size → TokOwn (((w1.setCell ⟨w.heap.size, k * 3, none⟩ (.slice (some ⟨g1, 0, none⟩) x.length x.length)).setCell ⟨w.heap.size, k * 3 + 1, none⟩ (.bool b)).setCell ⟨w.heap.size, k * 3 + 2, none⟩ (.slice (some ⟨g2, 0, none⟩) y.length y.length)) g q t := fun h hne =>
      ((h.put (by show _ ≠ w.heap.size; exact hne) _).put (by show _ ≠ w.heap.size; exact hne) _).put (by show _ ≠ w.heap.size; exact hne) _
    by_cases e : i = k
    · subst e
      rw [ht]
      simp only [if_true]
      exact ⟨put3 ho1 (by omega), put3 ho2 (by omega)⟩
    · simp only [e, if_false]
      have := h4 i (by omega)
      obtain ⟨t1, t2⟩ := h7 i (by omega)
      exact ⟨put3 (t1.below hb this.2.1) (by omega), put3 (t2.below hb this.2.2.2) (by omega)⟩
theorem PFill.reads {w wr : World} {n : Nat} {ps : List Pr} (h : PFill w n n ps wr) (hl : ps.length = n) (hm : pbulk ps ≤ 1048576) : PrR wr wr.heap.size (some ⟨w.heap.size, 0, none⟩) n ps := by
  obtain ⟨hbel, ga, gb, h4, ⟨cs, hblk, hs, hc⟩, h7⟩ := h
  refine ⟨hl, fun _ => ⟨w.heap.size, 0, rfl, hblk.lt, fun k hk => ?_⟩⟩
  obtain ⟨a0, a1, a2⟩ := hc k hk
  obtain ⟨t1, t2⟩ := h7 k hk
  have hg := ptot_get ps k (by omega)
  have h4k := h4 k hk
  unfold pbulk at hm
  refine ⟨some ⟨ga k, 0, none⟩, (ps.getD k pr0).1.length, (ps.getD k pr0).1.length, some ⟨gb k, 0, none⟩, (ps.getD k pr0).2.2.length, (ps.getD k pr0).2.2.length, ?_, ?_, ?_, t1.reads.more (by omega), t2.reads.more (by omega), by omega, by omega⟩
  · rw [Nat.zero_add, hblk.cell]; exact a0
  · rw [Nat.zero_add, hblk.cell]; exact a1
  · rw [Nat.zero_add, hblk.cell]; exact a2

set_option maxRecDepth 100000 in
set_option maxHeartbeats 1600000 in
theorem toPairS_any (w : World) (B : Nat) (A : Option Addr) (n c : Nat) (ps : List Pr) (hB : B ≤ w.heap.size) (hl : PrR w B A n ps) (hm : pbulk ps ≤ 1048576) :
    Calls Tryz.prog 45 #[.slice A n c] w fun e w' => e = .returned (.slice (some ⟨w.heap.size, 0, none⟩) n n) ∧ Below w.heap.size w w' ∧ w.heap.size + 1 ≤ w'.heap.size ∧ PrR w' w'.heap.size (some ⟨w.heap.size, 0, none⟩) n ps := by
  obtain ⟨i0, hi, hz0, hz1, hz2⟩ := info_parts info_pair
  have hln := hl.1
  have hn : n ≤ 1048576 := by unfold pbulk at hm; omega
  have hmk : ∀ wx, (Instr.makeSlice 71 (.int .i64 (n : Int)) (.int .i64 (n : Int))).run Tryz.prog wx = .ok (.slice (some ⟨wx.heap.size, 0, none⟩) n n) (wx.alloc (.cells (madeCells (Value.agg #[.slice none 0 0, .bool false, .slice none 0 0]).cells (n * 3)) 124)) := by
    intro wx
    have hr := run_make (P := Tryz.prog) wx 71 124 i0 _ Tryz.underlying71 hi hz0 .i64 .i64 n n (by omega) (by omega) (by rw [hz2]; omega) (by omega)
    simp only [Int.toNat_natCast, hz1] at hr
    exact hr
  have hstart : PFill w n 0 ps (w.alloc (.cells (madeCells (Value.agg #[.slice none 0 0, .bool false, .slice none 0 0]).cells (n * 3)) 124)) :=
    ⟨(Below.refl _ _).alloc (Nat.le_refl _) _, fun _ => 0, fun _ => 0, fun i hi => absurd hi (by omega), ⟨_, Blk.made _ _ _, by simp [madeCells], fun i hi => absurd hi (by omega)⟩, fun i hi => absurd hi (by omega)⟩
  have HS := Lib.hid hstart
  clear hstart hi hz0 hz1 hz2
  go_enter Tryz.func45, Tryz.ntmps45
  go_wp2
  go_loopw [4] (fun i wr => ∃ k : Nat, k ≤ n ∧ i = .int .i64 k ∧ PFill w n k ps wr) (fun i _ => n - (intOf i).toNat)
  case atStart => exact ⟨0, Nat.zero_le _, rfl, HS.out⟩
  case round =>
    obtain ⟨k, hk, rfl, hF⟩ := hrel
    have hbel := hF.1
    have hszr := hbel.size
    have HF := Lib.hid hF
    clear hF
    by_cases hlt : k < n
    · have hlr := hl.below (hbel.mono hB)
      obtain ⟨b, off, rfl, hb, hc⟩ := hlr.2 (by omega)
      obtain ⟨Ak, nk, ck, Ck, mk, dk, c0, c1, c2, t1, t2, _, _⟩ := hc k hlt
      have hgk := ptot_get ps k (by omega)
      obtain ⟨t, ht⟩ : ∃ t, ps.getD k pr0 = t := ⟨_, rfl⟩
      rw [ht] at c1 t1 t2 hgk
      obtain ⟨x, fb, y⟩ := t
      have hnk : x.length = nk := t1.1
      have hmk2 : y.length = mk := t2.1
      have hnk2 : nk ≤ 1048576 ∧ mk ≤ 1048576 := by simp only at hgk; unfold pbulk at hm; omega
      obtain ⟨hx1, hx2⟩ := hnk2
      have HT1 := Lib.hid t1
      have HT2 := Lib.hid t2
      have HT := Lib.hid ht
      have HNK := Lib.hid hnk
      have HMK := Lib.hid hmk2
      have HL := Lib.hid hl
      clear hl hlr hc t1 t2 hgk hnk hmk2 ht
      go_wp2_with fail
      refine (toPair_any wr B Ak nk ck fb Ck mk dk x y (by omega) HT1.out HT2.out hx1 hx2).mono ?_
      rintro e w1 ⟨g1, g2, rfl, hg1, hg2, hb1, ho1, ho2⟩
      obtain ⟨_, ga, gb, _, ⟨cs, hblk, hs, _⟩, _⟩ := HF.out
      have hblk1 := hblk.below hb1 hblk.lt
      have hlt1 := hblk1.lt
      have f0 := hblk1.thawed (k * 3)
      have f1 := hblk1.thawed (k * 3 + 1)
      have f2 := hblk1.thawed (k * 3 + 2)
      obtain ⟨v0, e0⟩ : ∃ v1, w1.cell? ⟨w.heap.size, k * 3, none⟩ = some v1 := ⟨_, (hblk1.cell _).trans (Array.getElem?_eq_getElem (by omega))⟩
      obtain ⟨v1, e1⟩ : ∃ v1, w1.cell? ⟨w.heap.size, k * 3 + 1, none⟩ = some v1 := ⟨_, (hblk1.cell _).trans (Array.getElem?_eq_getElem (by omega))⟩
      obtain ⟨v2, e2⟩ : ∃ v1, w1.cell? ⟨w.heap.size, k * 3 + 2, none⟩ = some v1 := ⟨_, (hblk1.cell _).trans (Array.getElem?_eq_getElem (by omega))⟩
      have HN := Lib.hid (pfill_step HT.out HF.out hb1 hlt hg1 hg2 (by rw [HNK.out]; exact ho1) (by rw [HMK.out]; exact ho2))
      rw [HNK.out, HMK.out] at HN
      clear hblk hblk1 hs HF ho1 ho2 hb1
      go_wp2
      go_roundw
      case rel => exact ⟨k + 1, by omega, by go_num, HN.out⟩
      case measure => simp [intOf]; omega
    · obtain rfl : k = n := by omega
      go_wp2
      go_ret
      have hr := HF.out.reads hln hm
      have hlt0 : w.heap.size < wr.heap.size := by obtain ⟨_, _, _, _, ⟨cs, hblk, _⟩, _⟩ := HF.out; exact hblk.lt
      exact ⟨rfl, hbel, hlt0, hr⟩
set_option maxRecDepth 100000 in
set_option maxHeartbeats 1600000 in
theorem eqPairS_reads (w : World) (B : Nat) (A1 A2 : Option Addr) (n c1 c2 : Nat) (ps : List Pr) (hB : B ≤ w.heap.size) (h1 : PrR w B A1 n ps) (h2 : PrR w B A2 n ps) (hm : pbulk ps ≤ 1048576) :
    Calls Tryz.prog 47 #[.slice A1 n c1, .slice A2 n c2] w fun e w' => e = .returned (.bool true) ∧ Below w.heap.size w w' := by
  have hln := h1.1
  have hn : n ≤ 1048576 := by unfold pbulk at hm; omega
  have en : ((n : Int) != (n : Int)) = false := by simp
  go_enter Tryz.func47, Tryz.ntmps47
  go_wp2
  go_loopw [5] (fun i wr => ∃ k : Nat, k ≤ n ∧ i = .int .i64 k ∧ Below w.heap.size w wr) (fun i _ => n - (intOf i).toNat)
  case atStart => exact ⟨0, Nat.zero_le _, rfl, Below.refl _ _⟩
  case round =>
    obtain ⟨k, hk, rfl, hbel⟩ := hrel
    have hszr := hbel.size
    by_cases hlt : k < n
    · have l1 := h1.below (hbel.mono hB)
      have l2 := h2.below (hbel.mono hB)
      obtain ⟨b1, off1, rfl, hb1, hc1⟩ := l1.2 (by omega)
      obtain ⟨Ak, nk, ck, Ck, mk, dk, a0, a1, a2, ta1, tb1, _, _⟩ := hc1 k hlt
      obtain ⟨b2, off2, rfl, hb2, hc2⟩ := l2.2 (by omega)
      obtain ⟨Ak', nk', ck', Ck', mk', dk', x0, x1, x2, ta2, tb2, _, _⟩ := hc2 k hlt
      have hgk := ptot_get ps k (by omega)
      obtain rfl : nk' = nk := by rw [← ta1.1, ← ta2.1]
      obtain rfl : mk' = mk := by rw [← tb1.1, ← tb2.1]
      have hnk : nk' ≤ 1048576 ∧ mk' ≤ 1048576 := by rw [ta1.1, tb1.1] at hgk; unfold pbulk at hm; omega
      obtain ⟨hx1, hx2⟩ := hnk
      obtain ⟨fb, hfb⟩ : ∃ t, (ps.getD k pr0).2.1 = t := ⟨_, rfl⟩
      rw [hfb] at a1 x1
      have HT1 := Lib.hid ta1
      have HT2 := Lib.hid ta2
      have HT3 := Lib.hid tb1
      have HT4 := Lib.hid tb2
      have HH1 := Lib.hid h1
      have HH2 := Lib.hid h2
      clear h1 h2 l1 l2 hc1 hc2 ta1 ta2 tb1 tb2 hgk hfb
      go_wp2_with fail
      refine region_tail 8 (by kernel_rfl) (by kernel_rfl) ?_
      simp only [List.take_succ_cons, List.take_zero, List.drop_succ_cons, List.drop_zero]
      repeat still_step
      refine wpStill_nil ?_
      go_wp2_with fail
      refine (eqPair_any wr.drew B _ _ _ _ nk' mk' _ _ _ _ fb _ _ (by simpa using Nat.le_trans hB hszr) HT1.out HT2.out HT3.out HT4.out hx1 hx2).mono ?_
      rintro e w1 ⟨rfl, hb1⟩
      have HB := Lib.hid (hbel.drew.trans (hb1.mono hszr))
      clear hb1
      go_wp2
      go_roundw
      case rel => exact ⟨k + 1, by omega, by go_num, HB.out⟩
      case measure => simp [intOf]; omega
    · obtain rfl : k = n := by omega
      go_wp2
      go_ret
      exact ⟨rfl, hbel⟩
end Go.Proofs.YtgebjnoicgmdoaaGreatDoor
