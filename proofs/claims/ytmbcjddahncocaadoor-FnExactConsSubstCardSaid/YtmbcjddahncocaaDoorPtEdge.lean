/- The laws' work on slices of levels: their size, a copy. -/
/- Plain facts for constraints, as the program goes: a table of ways lengthened by one edge until it stays as it is; where it stays it is the table of longest ways, and for six nodes it stays by the sixth time or never. Nothing of the program is imported. -/
/- Words for memory: a table of six times six numbers in one block, as the program keeps it. -/
/- The program's table with one more edge: extended. -/
/- The program's table of edges: edgesOf. -/
import Derived.Test.YtmbcjddahncocaaDoorSRes
import Derived.Test.YtmbcjddahncocaaDoorCoMem
import Derived.Deep.WholeRow
import Derived.BigQuiet

namespace Go.Proofs.YtmbcjddahncocaaDoor
open Go.RowKit

/-- what is left of a bound -/
def szR (left : Int) (m : Nat) : Int := if left < m then -1 else left - m
theorem szR_pos {left : Int} {m : Nat} (h : left < m) : szR left m = -1 := if_pos h
theorem szR_neg {left : Int} {m : Nat} (h : ¬ left < m) : szR left m = left - m := if_neg h

set_option maxHeartbeats 800000 in
theorem szLevel_any (A : Option Addr) (n c : Nat) (left : Int) (w : World) (h0 : 0 ≤ left) (h1 : left ≤ 1048576) (hn : (n : Int) ≤ 9223372036854775807) :
    Calls Tryd.prog 107 #[.agg #[.slice A n c], .int .i64 left] w fun e w' => e = .returned (.int .i64 (szR left n)) ∧ Below w.heap.size w w' := by
  have hb := (Below.refl w.heap.size w).alloc (Nat.le_refl _) (.cells #[.slice A n c] 142)
  by_cases hlt : left < n
  · go_enter Tryd.func107, Tryd.ntmps107
    go_wp2_with fail
    refine (szTokS_any A n c left _ h0 h1 hn).mono ?_
    rintro e w' ⟨rfl, rfl⟩
    rw [if_pos (by omega)]
    go_wp2
    go_ret
    exact ⟨by rw [szR_pos (by omega)]; rfl, hb⟩
  · have hge : ¬ (left - (n : Int) < 0) := by omega
    go_enter Tryd.func107, Tryd.ntmps107
    go_wp2_with fail
    refine (szTokS_any A n c left _ h0 h1 hn).mono ?_
    rintro e w' ⟨rfl, rfl⟩
    rw [if_neg (by omega)]
    go_wp2
    go_ret
    exact ⟨by rw [szR_neg (by omega)]; rfl, hb⟩

set_option maxRecDepth 100000 in
set_option maxHeartbeats 1600000 in
theorem szLevelS_any (w : World) (B : Nat) (A : Option Addr) (n c : Nat) (ls : List (List (Int × Int))) (left : Int) (hB : B ≤ w.heap.size) (hl : LvlR w B A n ls) (hn : (n : Int) ≤ 9223372036854775807) (h0 : 0 ≤ left) (h1 : left ≤ 1048576) :
    Calls Tryd.prog 50 #[.slice A n c, .int .i64 left] w fun e w' => e = .returned (.int .i64 (szR left (bulk ls))) ∧ Below w.heap.size w w' := by
  have hln := hl.1
  by_cases hbig : left < n
  · have HR : Hid (szR left (bulk ls) = -1) := by show _ = _; rw [szR_pos (by unfold bulk; omega)]
    go_enter Tryd.func50, Tryd.ntmps50
    go_wp2
    go_ret
    exact ⟨by rw [HR.out]; rfl, Below.refl _ _⟩
  · have hge : ¬ (left - (n : Int) < 0) := by omega
    go_enter Tryd.func50, Tryd.ntmps50
    go_wp2
    go_loopw [1, 5] (fun v i wr => ∃ k : Nat, k ≤ n ∧ i = .int .i64 k ∧ v = .int .i64 (left - n - (tot (ls.take k) : Nat)) ∧ 0 ≤ left - n - (tot (ls.take k) : Nat) ∧ Below w.heap.size w wr) (fun _ i _ => n - (intOf i).toNat)
    case atStart => exact ⟨0, Nat.zero_le _, rfl, by simp [tot], by simp [tot]; omega, Below.refl _ _⟩
    case round =>
      obtain ⟨k, hk, rfl, rfl, hpos, hbel⟩ := hrel
      have hszr := hbel.size
      by_cases hlt : k < n
      · have hlr := hl.below (hbel.mono hB)
        obtain ⟨b, off, rfl, hb, hc⟩ := hlr.2 (by omega)
        obtain ⟨Ak, nk, ck, c1, t1, hnk⟩ := hc k hlt
        have htk := tot_take ls k (by omega)
        rw [t1.1] at htk
        have htl := tot_le ls (k + 1)
        have HL := Lib.hid hl
        obtain ⟨T, hT⟩ : ∃ T, tot (ls.take k) = T := ⟨_, rfl⟩
        rw [hT] at htk hpos ⊢
        have HK := Lib.hid htk
        have HLE := Lib.hid htl
        clear hl hlr hc t1 hT htk htl
        go_wp2_with fail
        refine (szLevel_any Ak nk ck (left - n - (T : Nat)) wr hpos (by omega) hnk).mono ?_
        rintro e w1 ⟨rfl, hb1⟩
        have HB1 := Lib.hid (hbel.trans (hb1.mono hszr))
        clear hb1 hbel
        by_cases hs : left - n - (T : Nat) < (nk : Int)
        · rw [szR_pos hs]
          have HR : Hid (szR left (bulk ls) = -1) := by show _ = _; rw [szR_pos (by unfold bulk; have := HK.out; have := HLE.out; omega)]
          go_wp2
          go_ret
          exact ⟨by rw [HR.out]; rfl, HB1.out⟩
        · rw [szR_neg hs]
          have hge2 : ¬ (left - n - (T : Nat) - (nk : Int) < 0) := by omega
          go_wp2
          go_roundw
          case rel => exact ⟨k + 1, by omega, by go_num, by rw [HK.out]; congr 1; omega, by rw [HK.out]; omega, HB1.out⟩
          case measure => simp [intOf]; omega
      · obtain rfl : k = n := by omega
        have ht : tot (ls.take k) = tot ls := by rw [List.take_of_length_le (by omega)]
        rw [ht] at hpos ⊢
        have HR : Hid (szR left (bulk ls) = left - k - (tot ls : Nat)) := by show _ = _; rw [szR_neg (by unfold bulk; omega)]; unfold bulk; omega
        clear ht
        go_wp2
        go_ret
        exact ⟨by rw [HR.out]; rfl, hbel⟩

theorem info_level : (Tryd.prog.info? 56).map (fun i => (i.zero, i.size, i.bytes)) = some (some (.agg #[.slice none 0 0]), 1, 24) := by kernel_rfl

theorem TokOwn.tl {w : World} {g n : Nat} {l : List (Int × Int)} (h : TokOwn w g n l) : g < w.heap.size := by obtain ⟨_, cs, hblk, _⟩ := h; exact hblk.lt
theorem TokOwn.put {w : World} {g n : Nat} {l : List (Int × Int)} (h : TokOwn w g n l) {p : Addr} (hp : g ≠ p.block) (u : Value) : TokOwn (w.setCell p u) g n l := by
  obtain ⟨hl, cs, hblk, rest⟩ := h
  exact ⟨hl, cs, hblk.other hp u, rest⟩

set_option maxRecDepth 100000 in
set_option maxHeartbeats 1600000 in
theorem toLevel_any (w : World) (B : Nat) (A : Option Addr) (n c : Nat) (l : List (Int × Int)) (hB : B ≤ w.heap.size) (hl : TokR w B A n l) (hn : n ≤ 1048576) :
    Calls Tryd.prog 108 #[.agg #[.slice A n c]] w fun e w' => ∃ g, e = .returned (.agg #[.slice (some ⟨g, 0, none⟩) n n]) ∧ w.heap.size ≤ g ∧ Below w.heap.size w w' ∧ TokOwn w' g n l := by
  have hb3 : Below w.heap.size w (((w.alloc (.cells #[.slice A n c] 142)).alloc (.cells #[.slice none 0 0] 56)).alloc (.cells #[.slice none 0 0] 56)) :=
    (((Below.refl _ _).alloc (Nat.le_refl _) _).alloc (by simp) _).alloc (by simp; omega) _
  have k1 : Blk (((w.alloc (.cells #[.slice A n c] 142)).alloc (.cells #[.slice none 0 0] 56)).alloc (.cells #[.slice none 0 0] 56)) (w.heap.size + 1) 56 #[.slice none 0 0] := by
    have h := (Blk.made (w.alloc (.cells #[.slice A n c] 142)) 56 #[.slice none 0 0]).alloc (.cells #[.slice none 0 0] 56)
    rwa [World.size_alloc] at h
  have k2 : Blk (((w.alloc (.cells #[.slice A n c] 142)).alloc (.cells #[.slice none 0 0] 56)).alloc (.cells #[.slice none 0 0] 56)) (w.heap.size + 2) 56 #[.slice none 0 0] := by
    have h := Blk.made ((w.alloc (.cells #[.slice A n c] 142)).alloc (.cells #[.slice none 0 0] 56)) 56 #[.slice none 0 0]
    rwa [World.size_alloc, World.size_alloc] at h
  have hl3 := hl.below (hb3.mono hB)
  have HK1 := Lib.hid k1
  have HK2 := Lib.hid k2
  have HB3 := Lib.hid hb3
  clear k1 k2 hb3
  go_enter Tryd.func108, Tryd.ntmps108
  go_wp2_with fail
  refine (toTokS_any _ B A n c l (by simp; omega) hl3 hn).mono ?_
  rintro e w4 ⟨rfl, hb4, ho4⟩
  simp only [World.size_alloc] at ho4 hb4 ⊢
  have q1 := HK1.out.below hb4 (by omega)
  have q2 := HK2.out.below hb4 (by omega)
  have e1 : w4.cell? ⟨w.heap.size + 1, 0, none⟩ = some (.slice none 0 0) := q1.cell 0
  have e2 : w4.cell? ⟨w.heap.size + 2, 0, none⟩ = some (.slice none 0 0) := q2.cell 0
  have f1 := q1.thawed 0
  have f2 := q2.thawed 0
  have hlt1 := q1.lt
  have hlt2 := q2.lt
  have HB4 := Lib.hid (HB3.out.trans (hb4.mono (by omega)))
  have HO4 := Lib.hid ho4
  have HQ1 := Lib.hid q1
  clear q1 q2 hb4 ho4
  go_wp2
  have hres := ((HQ1.out.other (p := ⟨w.heap.size + 1 + 1, 0, none⟩) (by show w.heap.size + 1 ≠ w.heap.size + 1 + 1; omega) (.slice (some ⟨w.heap.size + 1 + 1 + 1, 0, none⟩) n n)).put 0 (.slice (some ⟨w.heap.size + 1 + 1 + 1, 0, none⟩) n n)).cell 0
  have hres' := hres.trans (show _ = some (Value.slice (some ⟨w.heap.size + 1 + 1 + 1, 0, none⟩) n n) by simp)
  clear hres
  exact bodyPost_ret (v := .agg #[.slice (some ⟨w.heap.size + 1 + 1 + 1, 0, none⟩) n n]) (by simp [results, Tryd.results108, go_sem, hres']) rfl
    ⟨w.heap.size + 1 + 1 + 1, rfl, by omega, (HB4.out.setCell (p := ⟨w.heap.size + 1 + 1, 0, none⟩) (by show w.heap.size ≤ w.heap.size + 1 + 1; omega) _).setCell (p := ⟨w.heap.size + 1, 0, none⟩) (by show w.heap.size ≤ w.heap.size + 1; omega) _,
      (HO4.out.put (p := ⟨w.heap.size + 1 + 1, 0, none⟩) (by show w.heap.size + 1 + 1 + 1 ≠ w.heap.size + 1 + 1; omega) _).put (p := ⟨w.heap.size + 1, 0, none⟩) (by show w.heap.size + 1 + 1 + 1 ≠ w.heap.size + 1; omega) _⟩

/-- block g is a row of just n levels, those of ls, each with a row of tokens of its own; all of it lies in g .. hi - 1 -/
def LvlOwn (w : World) (g hi n : Nat) (ls : List (List (Int × Int))) : Prop :=
  ls.length = n ∧ g < hi ∧ hi ≤ w.heap.size ∧ ∃ gs : Nat → Nat, (∀ i, i < n → g < gs i ∧ gs i < hi) ∧ (∀ i j, i < j → j < n → gs i < gs j) ∧
    (∃ cs, Blk w g 56 cs ∧ cs.size = n ∧ ∀ i, i < n → cs[i]? = some (.slice (some ⟨gs i, 0, none⟩) (ls.getD i []).length (ls.getD i []).length)) ∧ ∀ i, i < n → TokOwn w (gs i) (ls.getD i []).length (ls.getD i [])

theorem LvlOwn.lt {w : World} {g hi n : Nat} {ls : List (List (Int × Int))} (h : LvlOwn w g hi n ls) : g + 1 ≤ w.heap.size := by have := h.2.1; have := h.2.2.1; omega
theorem LvlOwn.below {w w' : World} {g hi n B : Nat} {ls : List (List (Int × Int))} (h : LvlOwn w g hi n ls) (hb : Below B w w') (hB : hi ≤ B) : LvlOwn w' g hi n ls := by
  obtain ⟨h1, h2, h3, gs, h4, h5, ⟨cs, hblk, hs, hc⟩, h7⟩ := h
  have := hb.size
  exact ⟨h1, h2, by omega, gs, h4, h5, ⟨cs, hblk.below hb (by omega), hs, hc⟩, fun i hi' => (h7 i hi').below hb (by have := (h4 i hi').2; omega)⟩
theorem LvlOwn.reads {w : World} {g hi n : Nat} {ls : List (List (Int × Int))} (h : LvlOwn w g hi n ls) (hm : bulk ls ≤ 1048576) : LvlR w hi (some ⟨g, 0, none⟩) n ls := by
  obtain ⟨h1, h2, _, gs, h4, _, ⟨cs, hblk, hs, hc⟩, h7⟩ := h
  refine ⟨h1, fun _ => ⟨g, 0, rfl, h2, fun k hk => ⟨some ⟨gs k, 0, none⟩, (ls.getD k []).length, (ls.getD k []).length, ?_, (h7 k hk).reads.more (by have := (h4 k hk).2; omega), ?_⟩⟩⟩
  · rw [Nat.zero_add, hblk.cell]; exact hc k hk
  · have := tot_get ls k (by omega)
    unfold bulk at hm
    omega

/-- the row of levels that is being filled: the first k of them are there -/
def LFill (w : World) (n k : Nat) (ls : List (List (Int × Int))) (wr : World) : Prop :=
  Below w.heap.size w wr ∧ ∃ gs : Nat → Nat, (∀ i, i < k → w.heap.size < gs i ∧ gs i < wr.heap.size) ∧ (∀ i j, i < j → j < k → gs i < gs j) ∧
    (∃ cs, Blk wr w.heap.size 56 cs ∧ cs.size = n ∧ ∀ i, i < k → cs[i]? = some (.slice (some ⟨gs i, 0, none⟩) (ls.getD i []).length (ls.getD i []).length)) ∧ ∀ i, i < k → TokOwn wr (gs i) (ls.getD i []).length (ls.getD i [])

theorem lfill_step {w wr w1 : World} {n k g1 : Nat} {ls : List (List (Int × Int))} (h : LFill w n k ls wr) (hb : Below wr.heap.size wr w1) (hk : k < n) (hg : wr.heap.size ≤ g1) (ho : TokOwn w1 g1 (ls.getD k []).length (ls.getD k [])) :
    LFill w n (k + 1) ls (w1.setCell ⟨w.heap.size, k, none⟩ (.slice (some ⟨g1, 0, none⟩) (ls.getD k []).length (ls.getD k []).length)) := by
  obtain ⟨hbel, gs, h4, h5, ⟨cs, hblk, hs, hc⟩, h7⟩ := h
  have hz := hbel.size
  have hz1 := hb.size
  have hwl := hblk.lt
  have hg1 := ho.tl
  have hblk1 := hblk.below hb hblk.lt
  refine ⟨(hbel.trans (hb.mono hz)).setCell (p := ⟨w.heap.size, k, none⟩) (Nat.le_refl _) _, fun i => if i = k then g1 else gs i, ?_, ?_, ⟨_, hblk1.put k _, by simp [hs], ?_⟩, ?_⟩
  · intro i hi
    by_cases e : i = k
    · simp only [e, if_true, World.size_setCell]; omega
    · have := h4 i (by omega)
      simp only [e, if_false, World.size_setCell]; omega
  · intro i j hij hj
    by_cases e : j = k
    · have := (h4 i (by omega)).2
      simp only [e, if_true, show i ≠ k by omega, if_false]; omega
    · have := h5 i j hij (by omega)
      simp only [e, show i ≠ k by omega, if_false]; exact this
  · intro i hi
    by_cases e : i = k
    · subst e
      simp only [if_true]
      rw [Array.getElem?_setIfInBounds_self_of_lt (by omega)]
    · simp only [e, if_false]
      rw [Array.getElem?_setIfInBounds_ne (by omega)]
      exact hc i (by omega)
  · intro i hi
    by_cases e : i = k
    · subst e
      simp only [if_true]
      exact ho.put (by show g1 ≠ w.heap.size; omega) _
    · simp only [e, if_false]
      have := h4 i (by omega)
      exact ((h7 i (by omega)).below hb this.2).put (by show gs i ≠ w.heap.size; omega) _

set_option maxRecDepth 100000 in
set_option maxHeartbeats 1600000 in
theorem toLevelS_any (w : World) (B : Nat) (A : Option Addr) (n c : Nat) (ls : List (List (Int × Int))) (hB : B ≤ w.heap.size) (hl : LvlR w B A n ls) (hm : bulk ls ≤ 1048576) :
    Calls Tryd.prog 51 #[.slice A n c] w fun e w' => e = .returned (.slice (some ⟨w.heap.size, 0, none⟩) n n) ∧ Below w.heap.size w w' ∧ LvlOwn w' w.heap.size w'.heap.size n ls := by
  obtain ⟨i0, hi, hz0, hz1, hz2⟩ := info_parts info_level
  have hln := hl.1
  have hn : n ≤ 1048576 := by unfold bulk at hm; omega
  have hmk : ∀ wx, (Instr.makeSlice 49 (.int .i64 (n : Int)) (.int .i64 (n : Int))).run Tryd.prog wx = .ok (.slice (some ⟨wx.heap.size, 0, none⟩) n n) (wx.alloc (.cells (madeCells (Value.agg #[.slice none 0 0]).cells (n * 1)) 56)) := by
    intro wx
    have hr := run_make (P := Tryd.prog) wx 49 56 i0 _ Tryd.underlying49 hi hz0 .i64 .i64 n n (by omega) (by omega) (by rw [hz2]; omega) (by omega)
    simp only [Int.toNat_natCast, hz1] at hr
    exact hr
  have hstart : LFill w n 0 ls (w.alloc (.cells (madeCells #[.slice none 0 0] n) 56)) :=
    ⟨(Below.refl _ _).alloc (Nat.le_refl _) _, fun _ => 0, fun i hi => absurd hi (by omega), fun i j _ hj => absurd hj (by omega), ⟨_, Blk.made _ _ _, by simp [madeCells], fun i hi => absurd hi (by omega)⟩, fun i hi => absurd hi (by omega)⟩
  have HS := Lib.hid hstart
  clear hstart hi hz0 hz1 hz2
  go_enter Tryd.func51, Tryd.ntmps51
  go_wp2
  go_loopw [4] (fun i wr => ∃ k : Nat, k ≤ n ∧ i = .int .i64 k ∧ LFill w n k ls wr) (fun i _ => n - (intOf i).toNat)
  case atStart => exact ⟨0, Nat.zero_le _, rfl, HS.out⟩
  case round =>
    obtain ⟨k, hk, rfl, hF⟩ := hrel
    have hbel := hF.1
    have hszr := hbel.size
    have HF := Lib.hid hF
    clear hF
    by_cases hlt : k < n
    · have hlr := hl.below (hbel.mono hB)
      obtain ⟨b, off, rfl, hb, hc⟩ := hlr.2 (by omega)
      obtain ⟨Ak, nk, ck, c1, t1, _⟩ := hc k hlt
      have hgk := tot_get ls k (by omega)
      have hnk := t1.1
      have hnk2 : nk ≤ 1048576 := by unfold bulk at hm; omega
      have HT1 := Lib.hid t1
      have HNK := Lib.hid hnk
      have HL := Lib.hid hl
      clear hl hlr hc t1 hgk hnk
      go_wp2_with fail
      refine (toLevel_any wr B Ak nk ck (ls.getD k []) (by omega) HT1.out hnk2).mono ?_
      rintro e w1 ⟨g1, rfl, hg1, hb1, ho1⟩
      obtain ⟨_, gs, _, _, ⟨cs, hblk, hs, _⟩, _⟩ := HF.out
      have hblk1 := hblk.below hb1 hblk.lt
      have hlt1 := hblk1.lt
      have f1 := hblk1.thawed k
      obtain ⟨v1, e1⟩ : ∃ v1, w1.cell? ⟨w.heap.size, k, none⟩ = some v1 := ⟨_, (hblk1.cell _).trans (Array.getElem?_eq_getElem (by omega))⟩
      have HN := Lib.hid (lfill_step HF.out hb1 hlt hg1 (by rw [HNK.out]; exact ho1))
      rw [HNK.out] at HN
      clear hblk hblk1 hs HF ho1 hb1
      go_wp2
      go_roundw
      case rel => exact ⟨k + 1, by omega, by go_num, HN.out⟩
      case measure => simp [intOf]; omega
    · obtain rfl : k = n := by omega
      go_wp2
      go_ret
      obtain ⟨_, gs, h4, h5, h6, h7⟩ := HF.out
      have hlt0 : w.heap.size < wr.heap.size := by obtain ⟨cs, hblk, _⟩ := h6; exact hblk.lt
      exact ⟨rfl, hbel, hln, hlt0, Nat.le_refl _, gs, h4, h5, h6, h7⟩

theorem TokOwn.lt {w : World} {g n : Nat} {l : List (Int × Int)} (h : TokOwn w g n l) : g + 1 ≤ w.heap.size := h.tl
theorem TokOwn.mark {w w' : World} {g n base m k size : Nat} {e : TypeId} {v : Value} {l : List (Int × Int)} {lo hi : Nat} (h : TokOwn w g n l) (hm : MarkOut w base e size v m k w') (hv : InR v lo hi) (hd : g < lo ∨ hi ≤ g) : TokOwn w' g n l := by
  have hlt := h.lt
  obtain ⟨hl, cs, hblk, rest⟩ := h
  refine ⟨hl, cs, ?_, rest⟩
  exact (hm.1.block g (by omega) (fun he => by have := hv g he.symm; omega)).trans hblk
theorem LvlOwn.mark {w w' : World} {g h' n base m k size : Nat} {e : TypeId} {v : Value} {ls : List (List (Int × Int))} {lo hi : Nat} (h : LvlOwn w g h' n ls) (hm : MarkOut w base e size v m k w') (hv : InR v lo hi) (hd : h' ≤ lo ∨ hi ≤ g) : LvlOwn w' g h' n ls := by
  obtain ⟨h1, h2, h3, gs, h4, h5, ⟨cs, hblk, hs, hc⟩, h7⟩ := h
  exact ⟨h1, h2, by rw [hm.2.1]; exact h3, gs, h4, h5, ⟨cs, hblk.grown hm.1 (fun he => by have := hv g he.symm; omega), hs, hc⟩, fun i hi' => (h7 i hi').mark hm hv (by have := h4 i hi'; omega)⟩

set_option maxRecDepth 100000 in
set_option maxHeartbeats 1600000 in
theorem eqLevel_any (w : World) (B : Nat) (A1 A2 : Option Addr) (n c1 c2 : Nat) (l : List (Int × Int)) (hB : B ≤ w.heap.size) (h1 : TokR w B A1 n l) (h2 : TokR w B A2 n l) (hn : n ≤ 1048576) :
    Calls Tryd.prog 110 #[.agg #[.slice A1 n c1], .agg #[.slice A2 n c2]] w fun e w' => e = .returned (.bool true) ∧ Below w.heap.size w w' := by
  have hb : Below w.heap.size w ((w.alloc (.cells #[.slice A1 n c1] 56)).alloc (.cells #[.slice A2 n c2] 56)) := ((Below.refl _ _).alloc (Nat.le_refl _) _).alloc (by simp) _
  have k1 := h1.below (hb.mono hB)
  have k2 := h2.below (hb.mono hB)
  have HB := Lib.hid hb
  clear hb
  go_enter Tryd.func110, Tryd.ntmps110
  go_wp2_with fail
  refine (eqTokS_any _ B A1 A2 n n c1 c2 l l (by simp; omega) k1 k2 (by omega) (by omega)).mono ?_
  rintro e w1 ⟨rfl, hb1⟩
  rw [decide_eq_true rfl]
  have HB1 := Lib.hid (HB.out.trans (hb1.mono (by simp; omega)))
  go_wp2
  go_ret
  exact ⟨rfl, HB1.out⟩

set_option maxRecDepth 100000 in
set_option maxHeartbeats 1600000 in
theorem eqLevelS_any (w : World) (B : Nat) (A1 A2 : Option Addr) (n c1 c2 : Nat) (ls : List (List (Int × Int))) (hB : B ≤ w.heap.size) (h1 : LvlR w B A1 n ls) (h2 : LvlR w B A2 n ls) (hm : bulk ls ≤ 1048576) :
    Calls Tryd.prog 53 #[.slice A1 n c1, .slice A2 n c2] w fun e w' => e = .returned (.bool true) ∧ Below w.heap.size w w' := by
  have hln := h1.1
  have hn : n ≤ 1048576 := by unfold bulk at hm; omega
  have en : ((n : Int) != (n : Int)) = false := by simp
  go_enter Tryd.func53, Tryd.ntmps53
  go_wp2
  go_loopw [5] (fun i wr => ∃ k : Nat, k ≤ n ∧ i = .int .i64 k ∧ Below w.heap.size w wr) (fun i _ => n - (intOf i).toNat)
  case atStart => exact ⟨0, Nat.zero_le _, rfl, Below.refl _ _⟩
  case round =>
    obtain ⟨k, hk, rfl, hbel⟩ := hrel
    have hszr := hbel.size
    by_cases hlt : k < n
    · have l1 := h1.below (hbel.mono hB)
      have l2 := h2.below (hbel.mono hB)
      obtain ⟨b, off, rfl, hb, hc⟩ := l1.2 (by omega)
      obtain ⟨Ak, nk, ck, x1, t1, _⟩ := hc k hlt
      obtain ⟨b', off', rfl, hb', hc'⟩ := l2.2 (by omega)
      obtain ⟨Ak', nk', ck', x2, t2, _⟩ := hc' k hlt
      have hgk := tot_get ls k (by omega)
      have hnk := t1.1
      obtain rfl : nk' = nk := by rw [← hnk, ← t2.1]
      have hnk2 : nk' ≤ 1048576 := by unfold bulk at hm; omega
      have HT1 := Lib.hid t1
      have HT2 := Lib.hid t2
      have HH1 := Lib.hid h1
      have HH2 := Lib.hid h2
      clear h1 h2 l1 l2 hc hc' t1 t2 hgk hnk
      go_wp2_with fail
      refine region_tail 8 (by kernel_rfl) (by kernel_rfl) ?_
      simp only [List.take_succ_cons, List.take_zero, List.drop_succ_cons, List.drop_zero]
      repeat still_step
      refine wpStill_nil ?_
      go_wp2_with fail
      refine (eqLevel_any wr.drew B Ak Ak' nk' ck ck' (ls.getD k []) (by simpa using Nat.le_trans hB hszr) HT1.out HT2.out hnk2).mono ?_
      rintro e w1 ⟨rfl, hb1⟩
      have HB := Lib.hid (hbel.drew.trans (hb1.mono hszr))
      clear hb1
      go_wp2
      go_roundw
      case rel => exact ⟨k + 1, by omega, by go_num, HB.out⟩
      case measure => simp [intOf]; omega
    · obtain rfl : k = n := by omega
      go_wp2
      go_ret
      exact ⟨rfl, hbel⟩

/-- nothing outside of g .. hi - 1 has turned -/
def LKept (w : World) (g hi : Nat) (wr : World) : Prop :=
  (∀ (B : Nat) (w0 : World), Below B w0 w → B ≤ g → Below B w0 wr) ∧
  (∀ (base : Nat) (e : TypeId) (size n : Nat) (u : Value) (xs : List Value) (lo' hi' : Nat), w.ownsRow base e size u n xs → InR u lo' hi' → (hi ≤ lo' ∨ hi' ≤ g) → wr.ownsRow base e size u n xs) ∧ wr.heap.size = w.heap.size
theorem LKept.below {w wr : World} {g hi : Nat} (h : LKept w g hi wr) {B : Nat} {w0 : World} (hb : Below B w0 w) (hB : B ≤ g) : Below B w0 wr := h.1 B w0 hb hB
theorem LKept.kept {w wr : World} {g hi : Nat} (h : LKept w g hi wr) {base : Nat} {e : TypeId} {size n : Nat} {u : Value} {xs : List Value} {lo' hi' : Nat} (hu : w.ownsRow base e size u n xs) (hi1 : InR u lo' hi') (hd : hi ≤ lo' ∨ hi' ≤ g) : wr.ownsRow base e size u n xs :=
  h.2.1 base e size n u xs lo' hi' hu hi1 hd
theorem LKept.size {w wr : World} {g hi : Nat} (h : LKept w g hi wr) : w.heap.size ≤ wr.heap.size := by rw [h.2.2]; exact Nat.le_refl _
theorem LKept.step {w wr w1 : World} {g hi base size n k : Nat} {e : TypeId} {v : Value} {lo h' : Nat} (h : LKept w g hi wr) (hg : g ≤ w.heap.size) (hm : MarkOut wr base e size v n k w1) (hv : InR v lo h') (h1 : g ≤ lo) (h2 : h' ≤ hi) : LKept w g hi w1 :=
  ⟨fun B w0 hb hB => markBelow (h.1 B w0 hb hB) hm hv (by omega) (by rw [h.2.2]; omega), fun base' e' size' n' u xs lo' hi' hu hi1 hd => markKept (h.kept hu hi1 hd) hm hv hi1 (by omega), by rw [hm.2.1, h.2.2]⟩

end Go.Proofs.YtmbcjddahncocaaDoor

namespace Go.Proofs.YtmbcjddahncocaaDoor.Cs

/-- one step of lengthening -/
def ext1 (t e : Tb) (i k j : Nat) (o : Tb) : Tb := if t i k ≠ -1 ∧ e k j ≠ -1 then put o i j (max (o i j) (t i k + e k j)) else o
def extJ (t e : Tb) (i k : Nat) : Nat → Tb → Tb
  | 0, o => o
  | n + 1, o => ext1 t e i k n (extJ t e i k n o)
def extK (t e : Tb) (i : Nat) : Nat → Tb → Tb
  | 0, o => o
  | n + 1, o => extJ t e i n 6 (extK t e i n o)
def extI (t e : Tb) : Nat → Tb → Tb
  | 0, o => o
  | n + 1, o => extK t e n 6 (extI t e n o)
/-- all ways with up to one more edge -/
def ext (t e : Tb) : Tb := extI t e 6 t
/-- each place is as it was, or a way with one more edge -/
def Of (t e o : Tb) : Prop := ∀ a b, o a b = t a b ∨ ∃ k, k < 6 ∧ t a k ≠ -1 ∧ e k b ≠ -1 ∧ o a b = t a k + e k b
theorem Of.ext1 {t e o : Tb} (h : Of t e o) {i k : Nat} (hk : k < 6) (j : Nat) : Of t e (ext1 t e i k j o) := by
  unfold Cs.ext1
  split
  · rename_i hc
    intro a b
    by_cases hab : a = i ∧ b = j
    · obtain ⟨rfl, rfl⟩ := hab
      rw [put_same]
      by_cases hm : o a b ≤ t a k + e k b
      · exact .inr ⟨k, hk, hc.1, hc.2, by omega⟩
      · rw [show max (o a b) (t a k + e k b) = o a b by omega]
        exact h a b
    · rw [put_other o _ hab]
      exact h a b
  · exact h
theorem Of.extJ {t e o : Tb} (h : Of t e o) {i k : Nat} (hk : k < 6) : ∀ n, Of t e (extJ t e i k n o)
  | 0 => h
  | n + 1 => (Of.extJ h hk n).ext1 hk n
theorem Of.extK {t e o : Tb} (h : Of t e o) {i : Nat} : ∀ n, n ≤ 6 → Of t e (extK t e i n o)
  | 0, _ => h
  | n + 1, hn => (Of.extK h n (by omega)).extJ (by omega) 6
theorem Of.extI {t e o : Tb} (h : Of t e o) : ∀ n, Of t e (extI t e n o)
  | 0 => h
  | n + 1 => (Of.extI h n).extK 6 (by omega)
/-- ways with up to n + 1 edges -/
def ways (e : Tb) : Nat → Tb
  | 0 => e
  | n + 1 => ext (ways e n) e

end Go.Proofs.YtmbcjddahncocaaDoor.Cs

namespace Go.Proofs.YtmbcjddahncocaaDoor
open Go.RowKit
open Cs (Cn Tb)

/-- the cells of a table -/
def tabA (d : Tb) : Array Value := ((List.range 36).map fun k => Value.int .i64 (d (k / 6) (k % 6))).toArray
theorem tabA_size (d : Tb) : (tabA d).size = 36 := by simp [tabA]
theorem tabA_at (d : Tb) {k : Nat} (hk : k < 36) : (tabA d)[k]? = some (.int .i64 (d (k / 6) (k % 6))) := by simp [tabA, hk]
theorem tabA_get (d : Tb) {i j : Nat} (hi : i < 6) (hj : j < 6) : (tabA d)[i * 6 + j]? = some (.int .i64 (d i j)) := by
  rw [tabA_at d (by omega), show (i * 6 + j) / 6 = i by omega, show (i * 6 + j) % 6 = j by omega]
theorem tabA_put (d : Tb) {i j : Nat} (_ : i < 6) (hj : j < 6) (x : Int) : (tabA d).setIfInBounds (i * 6 + j) (.int .i64 x) = tabA (Cs.put d i j x) := by
  apply Array.ext_getElem?
  intro k
  by_cases hk : k < 36
  · rw [Array.getElem?_setIfInBounds, tabA_at _ hk, tabA_at _ hk, tabA_size]
    unfold Cs.put
    by_cases e : i * 6 + j = k
    · subst e
      rw [if_pos rfl, if_pos (by omega), if_pos (by omega)]
    · rw [if_neg e, if_neg (by omega)]
  · rw [Array.getElem?_eq_none (by rw [Array.size_setIfInBounds, tabA_size]; omega), Array.getElem?_eq_none (by rw [tabA_size]; omega)]
/-- a block that holds a table -/
abbrev BlkT (w : World) (g : Nat) (d : Tb) : Prop := Blk w g 111 (tabA d)
theorem BlkT.spot {w : World} {g : Nat} {d : Tb} (h : BlkT w g d) {i j : Nat} (hi : i < 6) (hj : j < 6) : w.cell? ⟨g, i * 6 + j, none⟩ = some (.int .i64 (d i j)) := (h.cell _).trans (tabA_get d hi hj)
theorem BlkT.put {w : World} {g : Nat} {d : Tb} (h : BlkT w g d) {i j : Nat} (hi : i < 6) (hj : j < 6) (x : Int) : BlkT (w.setCell ⟨g, i * 6 + j, none⟩ (.int .i64 x)) g (Cs.put d i j x) := by
  have := Blk.put h (i * 6 + j) (.int .i64 x)
  rw [tabA_put d hi hj x] at this
  exact this

/-- the table that is all 0 -/
def zeroT : Tb := fun _ _ => 0
/-- a row of a table, as cells -/
def rowA (d : Tb) (i : Nat) : Array Value := ((List.range 6).map fun j => Value.int .i64 (d i j)).toArray
theorem rowA_size (d : Tb) (i : Nat) : (rowA d i).size = 6 := by simp [rowA]
theorem rowA_get (d : Tb) (i : Nat) {j : Nat} (hj : j < 6) : (rowA d i)[j]? = some (.int .i64 (d i j)) := by simp [rowA, hj]
theorem BlkT.row {w : World} {g : Nat} {d : Tb} (h : Blk w g 111 (tabA d)) {i : Nat} (hi : i < 6) : ∀ j, j < (rowA d i).size → w.cell? ⟨g, i * 6 + j, none⟩ = (rowA d i)[j]? := fun j hj => by
  rw [rowA_size] at hj
  rw [rowA_get d i hj, Blk.cell h, tabA_get d hi hj]
/-- one block of the world is written, and nothing is made -/
def Wrote (g : Nat) (w w' : World) : Prop := w.grownBy w' (some g) ∧ w'.heap.size = w.heap.size
theorem Wrote.set {w : World} {g : Nat} (k : Nat) (x : Value) : Wrote g w (w.setCell ⟨g, k, none⟩ x) :=
  ⟨⟨rfl, rfl, rfl, by simp [World.setCell], fun j _ hj => Below.heap_setCell _ _ _ _ (fun e => hj (by rw [e]))⟩, by simp [World.setCell]⟩
theorem Wrote.row (w : World) (g : Nat) (e : Array Value) : Wrote g w (w.setRow g e) :=
  ⟨⟨rfl, rfl, rfl, by simp [World.setRow], fun k _ hk => by
    simp only [World.setRow]
    rw [Array.getElem?_modify, if_neg (fun e => hk (by rw [e]))]⟩, by simp [World.setRow]⟩
theorem Wrote.below {w0 w w' : World} {g B : Nat} (h : Wrote g w w') (hb : Below B w0 w) (hB : B ≤ w.heap.size) (hg : B ≤ g) : Below B w0 w' := hb.grown h.1 hB (fun k hk => by injection hk with hk; omega)
theorem Wrote.blk {w w' : World} {g k : Nat} {t : TypeId} {cs : Array Value} (h : Wrote g w w') (hb : Blk w k t cs) (hk : k ≠ g) : Blk w' k t cs := (h.1.block k hb.lt (fun e => hk (by injection e with e))).trans hb
theorem BlkT.thawed {w : World} {g : Nat} {d : Tb} (h : BlkT w g d) (k : Nat) : w.frozen? ⟨g, k, none⟩ = false := Blk.thawed h k
end Go.Proofs.YtmbcjddahncocaaDoor

namespace Go.Proofs.YtmbcjddahncocaaDoor
open Go.RowKit
open Cs (Cn Tb)

/-- the walk's memory: both tables, the result's, the one that grows -/
structure ExtW (w : World) (t e o : Tb) (wr : World) : Prop where
  b0 : Blk wr w.heap.size 111 (tabA t)
  b1 : Blk wr (w.heap.size + 1) 111 (tabA e)
  b2 : Blk wr (w.heap.size + 2) 111 (tabA zeroT)
  b3 : Blk wr (w.heap.size + 3) 111 (tabA o)
  bel : Below w.heap.size w wr
theorem ExtW.put {w wr : World} {t e o : Tb} (h : ExtW w t e o wr) {i j : Nat} (hi : i < 6) (hj : j < 6) (x : Int) : ExtW w t e (Cs.put o i j x) (wr.setCell ⟨w.heap.size + 3, i * 6 + j, none⟩ (.int .i64 x)) := by
  have hw : Wrote (w.heap.size + 3) wr (wr.setCell ⟨w.heap.size + 3, i * 6 + j, none⟩ (.int .i64 x)) := Wrote.set _ _
  exact ⟨hw.blk h.b0 (by omega), hw.blk h.b1 (by omega), hw.blk h.b2 (by omega), BlkT.put h.b3 hi hj x, hw.below h.bel h.bel.size (by omega)⟩
theorem ExtW.drew {w wr : World} {t e o : Tb} (h : ExtW w t e o wr) : ExtW w t e o wr.drew := ⟨h.b0, h.b1, h.b2, h.b3, h.bel.drew⟩
end Go.Proofs.YtmbcjddahncocaaDoor

namespace Go.Proofs.YtmbcjddahncocaaDoor
open Go.RowKit
open Cs (Cn Tb)

/-- the walk's memory: the result's table, the one that is filled -/
structure EdgW (w : World) (cs : Array Value) (wr : World) : Prop where
  b0 : Blk wr w.heap.size 111 (tabA zeroT)
  b1 : Blk wr (w.heap.size + 1) 111 cs
  bel : Below w.heap.size w wr
theorem EdgW.lt {w wr : World} {cs : Array Value} (h : EdgW w cs wr) : w.heap.size + 2 ≤ wr.heap.size := h.b1.lt
theorem EdgW.put {w wr : World} {d : Tb} (h : EdgW w (tabA d) wr) {i j : Nat} (hi : i < 6) (hj : j < 6) (x : Int) : EdgW w (tabA (Cs.put d i j x)) (wr.setCell ⟨w.heap.size + 1, i * 6 + j, none⟩ (.int .i64 x)) := by
  have hw : Wrote (w.heap.size + 1) wr (wr.setCell ⟨w.heap.size + 1, i * 6 + j, none⟩ (.int .i64 x)) := Wrote.set _ _
  exact ⟨hw.blk h.b0 (by omega), BlkT.put h.b1 hi hj x, hw.below h.bel h.bel.size (by omega)⟩
theorem EdgW.later {w wr w' : World} {cs : Array Value} (h : EdgW w cs wr) (hb : Below wr.heap.size wr w') : EdgW w cs w' := ⟨Blk.below h.b0 hb h.b0.lt, Blk.below h.b1 hb h.b1.lt, h.bel.trans (hb.mono h.bel.size)⟩
end Go.Proofs.YtmbcjddahncocaaDoor
