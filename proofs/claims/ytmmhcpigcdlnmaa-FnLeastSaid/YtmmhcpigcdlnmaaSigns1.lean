/- ConsCore of the reference model. -/
/- ConsSigns of the reference model. -/
import Derived.Test.YtmmhcpigcdlnmaaSkip
import Derived.Test.YtmmhcpigcdlnmaaSigned

namespace Go.Proofs.Ytmmhcpigcdlnmaa
open Go.RowKit
open Cs (Cn Tb)

/-- indices as numbers -/
def natI (l : List Nat) : List Int := l.map fun (i : Nat) => (i : Int)
/-- the answer of ConsCore -/
def coreR (l : List Cn) : List Int := if consOkR l = true ∧ satR l = false then natI (Cs.keptI l (Cs.coreTo l l.length)) else []
theorem consOkR_skip {l : List Cn} (h : consOkR l = true) (g : Nat → Bool) : consOkR (Cs.skip l g) = true := by
  have h1 := consOkR_ok h
  unfold consOkR
  simp only [Bool.and_eq_true, List.all_eq_true, decide_eq_true_eq]
  have := Cs.skip_len l g
  exact ⟨fun c hc => Cs.skip_ok h1.1 g c hc, by omega⟩
theorem satR_skip {l : List Cn} (h : consOkR l = true) (g : Nat → Bool) : satR (Cs.skip l g) = Cs.flat (Cs.skip l g) := satR_ok (consOkR_skip h g)
theorem core_yes {l : List Cn} {k : Nat} (h : Cs.flat (Cs.skip l (Cs.mark (Cs.coreTo l k) k true)) = true) : Cs.mark (Cs.mark (Cs.coreTo l k) k true) k false = Cs.coreTo l (k + 1) := by
  have e : Cs.coreTo l (k + 1) = Cs.coreTo l k := by simp only [Cs.coreTo]; rw [if_pos h]
  rw [e]
  funext x
  unfold Cs.mark
  by_cases hx : x = k
  · rw [if_pos hx, hx, Cs.coreTo_late l k k (Nat.le_refl _)]
  · rw [if_neg hx, if_neg hx]
theorem core_no {l : List Cn} {k : Nat} (h : Cs.flat (Cs.skip l (Cs.mark (Cs.coreTo l k) k true)) = false) : Cs.mark (Cs.coreTo l k) k true = Cs.coreTo l (k + 1) := by
  simp only [Cs.coreTo]
  rw [if_neg (by rw [h]; decide)]
theorem natI_len (l : List Nat) : (natI l).length = l.length := by simp [natI]
theorem natI_snoc (l : List Nat) (k : Nat) : natI (l ++ [k]) = natI l ++ [(k : Int)] := by simp [natI]
theorem info_bool : (Try.prog.info? 4).map (fun i => (i.zero, i.size, i.bytes)) = some (some (.bool false), 1, 1) := by kernel_rfl
theorem make_bools (n : Nat) (hn : n ≤ 1000) : ∀ wx, (Instr.makeSlice 78 (.int .i64 (n : Int)) (.int .i64 (n : Int))).run Try.prog wx = .ok (.slice (some ⟨wx.heap.size, 0, none⟩) n n) (wx.alloc (.cells (madeCells #[Value.bool false] n) 4)) := by
  obtain ⟨i0, hi, hz0, hz1, hz2⟩ := info_parts info_bool
  intro wx
  have hr := run_make (P := Try.prog) wx 78 4 i0 _ Try.underlying78 hi hz0 .i64 .i64 n n (by omega) (by omega) (by rw [hz2]; omega) (by omega)
  simp only [Int.toNat_natCast, hz1, Nat.mul_one] at hr
  exact hr
theorem gone_made (n : Nat) : madeCells #[Value.bool false] n = goneA (fun _ => false) n := by
  apply Array.ext_getElem?
  intro k
  by_cases hk : k < n
  · rw [goneA_get _ hk]
    simp [madeCells, hk, Nat.mod_one]
  · rw [Array.getElem?_eq_none (by simp [madeCells]; omega), Array.getElem?_eq_none (by rw [goneA_size]; omega)]
/-- the walk's memory -/
structure CoreW (w : World) (n gb m : Nat) (A : Option Addr) (c : Nat) (out : List Int) (g : Nat → Bool) (wr : World) : Prop where
  own : OwnI wr w.heap.size A m c out
  gone : Blk wr gb 4 (goneA g n)
  bel : Below w.heap.size w wr
theorem CoreW.set {w wr : World} {n gb m c : Nat} {A : Option Addr} {out : List Int} {g : Nat → Bool} (h : CoreW w n gb m A c out g wr) (hg : w.heap.size ≤ gb) (i : Nat) (b : Bool) :
    CoreW w n gb m A c out (Cs.mark g i b) (wr.setCell ⟨gb, i, none⟩ (.bool b)) := by
  have hw : Wrote gb wr (wr.setCell ⟨gb, i, none⟩ (.bool b)) := Wrote.set _ _
  refine ⟨h.own.kept hw.1 (.inr (own_apart h.own h.gone (by decide))), ?_, hw.below h.bel h.bel.size hg⟩
  have := Blk.put h.gone i (.bool b)
  rw [goneA_set] at this
  exact this
theorem CoreW.later {w wr w' : World} {n gb m c : Nat} {A : Option Addr} {out : List Int} {g : Nat → Bool} (h : CoreW w n gb m A c out g wr) (hb : Below wr.heap.size wr w') : CoreW w n gb m A c out g w' :=
  ⟨own_below' h.own hb, Blk.below h.gone hb h.gone.lt, h.bel.trans (hb.mono h.bel.size)⟩

set_option maxRecDepth 100000 in
set_option maxHeartbeats 3200000 in
theorem specConsCore_any (w : World) (B : Nat) (A : Option Addr) (n c : Nat) (l : List Cn) (hB : B ≤ w.heap.size) (hl : ConR w B A n l) (hn : (n : Int) ≤ 140737488355328) :
    Calls Try.prog 15 #[.slice A n c] w fun e w' => ∃ Ao co, e = .returned (.slice Ao (coreR l).length co) ∧ OwnI w' w.heap.size Ao (coreR l).length co (coreR l) ∧ Below w.heap.size w w' := by
  obtain ⟨i0, hi, hz0, hz1, hz2⟩ := info_parts info_int
  obtain ⟨W0, hW0⟩ : ∃ W, w.alloc (.cells #[] 3) = W := ⟨_, rfl⟩
  have HO0 : Hid (OwnI W0 w.heap.size (some ⟨w.heap.size, 0, none⟩) 0 0 []) := by show OwnI _ _ _ _ _ _; rw [← hW0]; exact World.ownsRow_made w #[] 0 (Nat.le_refl _) (by simp [maxLen]) (by simp)
  have HB0 : Hid (Below w.heap.size w W0) := by show Below _ _ _; rw [← hW0]; exact (Below.refl _ _).alloc (Nat.le_refl _) _
  have hs0 : W0.heap.size = w.heap.size + 1 := by rw [← hW0]; simp
  have HLW := Lib.hid hl
  have HL := Lib.hid (hl.below (HB0.out.mono hB))
  clear hl
  go_enter Try.func15, Try.ntmps15
  go_wp2_with fail
  refine (specConsOk_any W0 B A n c l (by omega) HL.out hn).mono ?_
  rintro e w1 ⟨rfl, hb1⟩
  have hs1 := hb1.size
  have HB1 := Lib.hid (HB0.out.trans (hb1.mono (by omega)))
  have HO1 := Lib.hid (own_below' HO0.out hb1)
  have HL1 := Lib.hid (HL.out.below (hb1.mono (by omega)))
  clear hb1 hW0
  cases h1 : consOkR l with
  | false =>
    have HF : Hid (coreR l = []) := if_neg (fun h => by rw [h1] at h; exact absurd h.1 (by decide))
    clear h1
    go_wp2
    go_ret
    rw [HF.out]
    exact ⟨_, _, rfl, HO1.out, HB1.out⟩
  | true =>
    have H1 := Lib.hid h1
    clear h1
    go_wp2_with fail
    refine (specConsSat_any w1 B A n c l (by omega) HL1.out hn).mono ?_
    rintro e w2 ⟨rfl, hb2⟩
    have hs2 := hb2.size
    have HB2 := Lib.hid (HB1.out.trans (hb2.mono (by omega)))
    have HO2 := Lib.hid (own_below' HO1.out hb2)
    have HL2 := Lib.hid (HL1.out.below (hb2.mono (by omega)))
    clear hb2
    cases h2 : satR l with
    | true =>
      have HF : Hid (coreR l = []) := if_neg (fun h => by rw [h2] at h; exact absurd h.2 (by decide))
      clear h2
      go_wp2
      go_ret
      rw [HF.out]
      exact ⟨_, _, rfl, HO2.out, HB2.out⟩
    | false =>
      have HF : Hid (coreR l = natI (Cs.keptI l (Cs.coreTo l l.length))) := if_pos ⟨H1.out, h2⟩
      have hn24 : n ≤ 24 := by have := (consOkR_ok H1.out).2; rw [HL2.out.1] at this; exact this
      have hmk := make_bools n (by omega)
      obtain ⟨gb, hgb⟩ : ∃ gb, w2.heap.size = gb := ⟨_, rfl⟩
      obtain ⟨W3, hW3⟩ : ∃ W, w2.alloc (.cells (madeCells #[Value.bool false] n) 4) = W := ⟨_, rfl⟩
      have HX0 : Hid (CoreW w n gb 0 (some ⟨w.heap.size, 0, none⟩) 0 [] (Cs.coreTo l 0) W3) := by
        have hb : Below w2.heap.size w2 W3 := by rw [← hW3]; exact (Below.refl _ _).alloc (Nat.le_refl _) _
        refine ⟨own_below' HO2.out hb, ?_, HB2.out.trans (hb.mono (by omega))⟩
        rw [← hW3, ← hgb]
        have := Blk.made w2 4 (madeCells #[Value.bool false] n)
        rw [gone_made] at this ⊢
        exact this
      have hgbw : w.heap.size ≤ gb := by omega
      clear h2 HO0 HO1 HO2 HB0 HB1 HL HL1
      go_wp2
      clear hmk hW3
      go_loopw [3, 5] (fun v i wr => ∃ (k m g2 c2 : Nat) (out : List Int), k ≤ n ∧ i = .int .i64 k ∧ v = .slice (some ⟨g2, 0, none⟩) m c2 ∧ Hid (out = natI (Cs.foundI (Cs.coreTo l k) k)) ∧ m ≤ k ∧ Hid (CoreW w n gb m (some ⟨g2, 0, none⟩) c2 out (Cs.coreTo l k) wr)) (fun _ i _ => n - (intOf i).toNat)
      case atStart => exact ⟨0, 0, w.heap.size, 0, [], by omega, rfl, rfl, rfl, by omega, HX0.out⟩
      case round =>
        clear HX0
        obtain ⟨k, m, g2, c2, out, hk, rfl, rfl, HOUT, hmk, HX⟩ := hrel
        by_cases hlt : k < n
        · have hki : (k : Int) < (n : Int) := by omega
          have q1 := (HX.out.gone.cell k).trans (goneA_get (Cs.coreTo l k) hlt)
          have q2 := HX.out.gone.thawed k
          obtain ⟨W4, hW4⟩ : ∃ W, wr.setCell ⟨gb, k, none⟩ (.bool true) = W := ⟨_, rfl⟩
          have HX4 : Hid (CoreW w n gb m (some ⟨g2, 0, none⟩) c2 out (Cs.mark (Cs.coreTo l k) k true) W4) := by show CoreW _ _ _ _ _ _ _ _ _; rw [← hW4]; exact HX.out.set hgbw k true
          obtain ⟨G, hG⟩ : ∃ G, Cs.mark (Cs.coreTo l k) k true = G := ⟨_, rfl⟩
          rw [hG] at HX4
          have HG := Lib.hid hG
          have hs4 := HX4.out.bel.size
          have HL4 := Lib.hid (HLW.out.below (HX4.out.bel.mono hB))
          clear hG
          generalize Cs.coreTo l k k = z at q1
          go_wp2_with fail
          refine (l05Skip_any W4 B A n c l gb G (by omega) HL4.out HX4.out.gone (by omega)).mono ?_
          rintro e w5 ⟨g5, c5, rfl, ho5, hb5⟩
          have HX5 := Lib.hid (HX4.out.later hb5)
          have hs5 := hb5.size
          have HO5 := Lib.hid ho5
          clear ho5 hb5
          have hln := Cs.skip_len l G
          rw [HL2.out.1] at hln
          go_wp2_with fail
          refine (specConsSat_any w5 w5.heap.size (some ⟨g5, 0, none⟩) (Cs.skip l G).length c5 (Cs.skip l G) (Nat.le_refl _) (OwnC.reads HO5.out) (by omega)).mono ?_
          rintro e w6 ⟨rfl, hb6⟩
          rw [satR_skip H1.out G]
          have HX6 := Lib.hid (HX5.out.later hb6)
          clear hb6
          cases hf : Cs.flat (Cs.skip l G) with
          | true =>
            have HGK : Hid (Cs.mark G k false = Cs.coreTo l (k + 1)) := by show _ = _; rw [← HG.out] at hf ⊢; exact core_yes hf
            have HF2 : Hid (out ++ [(k : Int)] = natI (Cs.foundI (Cs.coreTo l (k + 1)) (k + 1))) := by
              show _ = _
              rw [← HG.out] at hf
              rw [Cs.core_found, if_pos hf, natI_snoc, ← HOUT.out]
            have q5 := (HX6.out.gone.cell k).trans (goneA_get G hlt)
            have q6 := HX6.out.gone.thawed k
            obtain ⟨W7, hW7⟩ : ∃ W, w6.setCell ⟨gb, k, none⟩ (.bool false) = W := ⟨_, rfl⟩
            have HX7 : Hid (CoreW w n gb m (some ⟨g2, 0, none⟩) c2 out (Cs.coreTo l (k + 1)) W7) := by show CoreW _ _ _ _ _ _ _ _ _; rw [← hW7, ← HGK.out]; exact HX6.out.set hgbw k false
            have hown := HX7.out.own
            have hs7 := HX7.out.bel.size
            generalize G k = z2 at q5
            clear hf
            go_wp2_with (at_builtin; refine wpList_append_own _ rfl (.tmp 34) (.tmp 36) 26 rfl w.heap.size 3 i0 (.int .i64 0) 1 8 Try.underlying26 hi hz0 hz1 hz2 rfl (by decide) (.slice (some ⟨g2, 0, none⟩) m c2) m (out.map (Value.int .i64)) rfl (hown.alloc _) ⟨W7.heap.size, 0, none⟩ 1 1 [.int .i64 (k : Int)] rfl rfl (cell_one_new _ _ _) (fun u hu => by simp at hu; subst hu; rfl) (by unfold maxLen; omega) (by omega) (by simp; omega) ?_; intro v' w8 hown' hgrow hnil)
            obtain ⟨g8, c8, rfl⟩ : ∃ g' c', v' = .slice (some ⟨g', 0, none⟩) (m + 1) c' := by
              rcases hown'.2 with ⟨h0, _⟩ | ⟨g', c', _, h0, _⟩
              · have := (hnil.1 h0).1
                cases this
              · exact ⟨g', c', h0⟩
            have HX8 : Hid (CoreW w n gb (m + 1) (some ⟨g8, 0, none⟩) c8 (out ++ [(k : Int)]) (Cs.coreTo l (k + 1)) w8) := by
              have hbA : Below W7.heap.size W7 (W7.alloc (.cells #[.int .i64 (k : Int)] 3)) := (Below.refl _ _).alloc (Nat.le_refl _) _
              have hgA := Blk.below HX7.out.gone hbA HX7.out.gone.lt
              have hgK : Blk w8 gb 4 (goneA (Cs.coreTo l (k + 1)) n) := by
                refine (hgrow.block gb hgA.lt ?_).trans hgA
                intro he
                exact own_apart (hown.alloc _) hgA (by decide) he.symm
              refine ⟨?_, hgK, (HX7.out.bel.alloc hs7 _).grown hgrow (by simp; omega) (fun x h => (hown.lt x h).1)⟩
              unfold OwnI
              rw [List.map_append]
              exact hown'
            clear hown hown' hgrow hnil
            go_wp2
            go_roundw
            case rel => exact ⟨k + 1, m + 1, g8, c8, out ++ [(k : Int)], by omega, by go_num, rfl, HF2.out, by omega, HX8.out⟩
            case measure => simp [intOf]; omega
          | false =>
            have HGK : Hid (G = Cs.coreTo l (k + 1)) := by show _ = _; rw [← HG.out] at hf ⊢; exact core_no hf
            have HF2 : Hid (out = natI (Cs.foundI (Cs.coreTo l (k + 1)) (k + 1))) := by
              show _ = _
              rw [← HG.out] at hf
              rw [Cs.core_found, if_neg (by rw [hf]; decide), ← HOUT.out]
            rw [HGK.out] at HX6
            clear hf
            go_wp2
            go_roundw
            case rel => exact ⟨k + 1, m, g2, c2, out, by omega, by go_num, rfl, HF2.out, by omega, HX6.out⟩
            case measure => simp [intOf]; omega
        · obtain rfl : k = n := by omega
          have hkk : ¬ (k : Int) < (k : Int) := by omega
          have HS : Hid (out = coreR l) := by show _ = _; rw [HF.out, HL2.out.1, ← Cs.foundI_all, HL2.out.1]; exact HOUT.out
          have HM : Hid (out.length = m) := by
            have h := HX.out.own.1
            rw [List.length_map, Nat.mul_one] at h
            exact h
          go_wp2
          go_ret
          refine ⟨some ⟨g2, 0, none⟩, c2, ?_, ?_, HX.out.bel⟩
          · rw [← HS.out, HM.out]; rfl
          · rw [← HS.out, HM.out]; exact HX.out.own
end Go.Proofs.Ytmmhcpigcdlnmaa

namespace Go.Proofs.Ytmmhcpigcdlnmaa
open Go.RowKit
open Cs (Cn Tb)

/-- a sign that the list excludes -/
def gS (l : List Cn) (S : Nat) : Bool := !Cs.flat (Cs.signed l fun p => Sg.has (S : Int) (p : Int))
/-- the answer of ConsSigns -/
def signsR (l : List Cn) : List Int := if consOkR l = true then natI (Cs.foundI (gS l) 32) else []
theorem signsR_len (l : List Cn) : (signsR l).length ≤ 1000 := by
  unfold signsR
  split
  · rw [natI_len]
    have := Cs.foundI_len (gS l) 32
    omega
  · simp

set_option maxRecDepth 100000 in
set_option maxHeartbeats 3200000 in
theorem specConsSigns_any (w : World) (B b off n c : Nat) (l : List Cn) (hB : B ≤ w.heap.size) (hl : ConR w B (some ⟨b, off, none⟩) n l) (hn : (n : Int) ≤ 140737488355328) :
    Calls Try.prog 32 #[.slice (some ⟨b, off, none⟩) n c] w fun e w' => ∃ Ao co, e = .returned (.slice Ao (signsR l).length co) ∧ OwnI w' w.heap.size Ao (signsR l).length co (signsR l) ∧ Below w.heap.size w w' := by
  obtain ⟨i0, hi, hz0, hz1, hz2⟩ := info_parts info_int
  have HO0 : Hid (OwnI (w.alloc (.cells #[] 3)) w.heap.size (some ⟨w.heap.size, 0, none⟩) 0 0 (natI (Cs.foundI (gS l) 0))) := World.ownsRow_made w #[] 0 (Nat.le_refl _) (by simp [maxLen]) (by simp)
  have HB0 : Hid (Below w.heap.size w (w.alloc (.cells #[] 3))) := (Below.refl _ _).alloc (Nat.le_refl _) _
  have HL := Lib.hid hl
  clear hl
  go_enter Try.func32, Try.ntmps32
  go_wp2
  go_loopw [3, 4] (fun v i wr => ∃ (k m g2 c2 : Nat), k ≤ 32 ∧ i = .int .i64 k ∧ v = .slice (some ⟨g2, 0, none⟩) m c2 ∧ m ≤ k ∧ (0 < k → consOkR l = true) ∧ Hid (OwnI wr w.heap.size (some ⟨g2, 0, none⟩) m c2 (natI (Cs.foundI (gS l) k))) ∧ Hid (Below w.heap.size w wr)) (fun _ i _ => 32 - (intOf i).toNat)
  case atStart => exact ⟨0, 0, w.heap.size, 0, by omega, rfl, rfl, by omega, fun h => absurd h (by omega), HO0.out, HB0.out⟩
  case round =>
    clear HO0 HB0
    obtain ⟨k, m, g2, c2, hk, rfl, rfl, hmk, hpos, HO, HB⟩ := hrel
    have hszr := HB.out.size
    have HPOS := Lib.hid hpos
    clear hpos
    by_cases hlt : k < 32
    · have hki : (k : Int) ≤ 31 := by omega
      have dki : decide ((k : Int) ≤ 31) = true := decide_eq_true hki
      go_wp2_with fail
      refine (specConsOk_any wr B (some ⟨b, off, none⟩) n c l (by omega) (HL.out.below (HB.out.mono hB)) hn).mono ?_
      rintro e w1 ⟨rfl, hb1⟩
      have HB1 := Lib.hid (HB.out.trans (hb1.mono hszr))
      have HO1 := Lib.hid (own_below' HO.out hb1)
      clear hb1
      cases h1 : consOkR l with
      | false =>
        have HF : Hid (signsR l = []) := if_neg (by rw [h1]; decide)
        have hk0 : k = 0 := by
          rcases Nat.eq_zero_or_pos k with h | h
          · exact h
          · have := HPOS.out h; rw [h1] at this; cases this
        obtain rfl : m = 0 := by omega
        have HO2 : Hid (OwnI w1 w.heap.size (some ⟨g2, 0, none⟩) 0 c2 []) := by have h := HO1.out; rw [hk0] at h; exact h
        clear h1 hk0
        go_wp2
        go_ret
        rw [HF.out]
        exact ⟨_, _, rfl, HO2.out, HB1.out⟩
      | true =>
        have H1 := Lib.hid h1
        have HP := Lib.hid (consOkR_ok h1)
        have hn24 : n ≤ 24 := by have := (consOkR_ok h1).2; rw [HL.out.1] at this; exact this
        have hs1 := HB1.out.size
        clear h1
        go_wp2_with fail
        refine (l05Signed_any w1 B b off n c l k (by omega) (HL.out.below (HB1.out.mono hB)) (by omega)).mono ?_
        rintro e w2 ⟨g5, c5, rfl, ho2, hb2⟩
        have HB2 := Lib.hid (HB1.out.trans (hb2.mono hs1))
        have HO2 := Lib.hid (own_below' HO1.out hb2)
        have HR2 := Lib.hid (OwnC.reads ho2)
        have hs2 := HB2.out.size
        clear ho2 hb2
        go_wp2_with fail
        refine (l05Paths_any w2 w2.heap.size (some ⟨g5, 0, none⟩) (n + 5) c5 _ (Nat.le_refl _) HR2.out (Cs.signed_ok HP.out.1 _) (by omega)).mono ?_
        rintro e w3 ⟨hb3, ⟨hf, g, cap, rw', cp, rfl, _⟩ | ⟨hf, rfl⟩⟩
        · have HFS : Hid (Cs.foundI (gS l) (k + 1) = Cs.foundI (gS l) k ++ [k]) := by
            show _ = _
            rw [Cs.foundI_succ, if_neg]
            show ¬ (!Cs.flat _) = true
            rw [hf]
            decide
          have HB3 := Lib.hid (HB2.out.trans (hb3.mono hs2))
          have hown := own_below' HO2.out hb3
          have hs3 := HB3.out.size
          clear hb3 hf
          go_wp2_with (at_builtin; refine wpList_append_own _ rfl (.tmp 24) (.tmp 26) 26 rfl w.heap.size 3 i0 (.int .i64 0) 1 8 Try.underlying26 hi hz0 hz1 hz2 rfl (by decide) (.slice (some ⟨g2, 0, none⟩) m c2) m ((natI (Cs.foundI (gS l) k)).map (Value.int .i64)) rfl (hown.alloc _) ⟨w3.heap.size, 0, none⟩ 1 1 [.int .i64 (k : Int)] rfl rfl (cell_one_new _ _ _) (fun u hu => by simp at hu; subst hu; rfl) (by unfold maxLen; omega) (by omega) (by simp; omega) ?_; intro v' w8 hown' hgrow hnil)
          obtain ⟨g8, c8, rfl⟩ : ∃ g' c', v' = .slice (some ⟨g', 0, none⟩) (m + 1) c' := by
            rcases hown'.2 with ⟨h0, _⟩ | ⟨g', c', _, h0, _⟩
            · have := (hnil.1 h0).1
              cases this
            · exact ⟨g', c', h0⟩
          have HB8 : Hid (Below w.heap.size w w8) := (HB3.out.alloc hs3 _).grown hgrow (by simp; omega) (fun x h => (hown.lt x h).1)
          have HO8 : Hid (OwnI w8 w.heap.size (some ⟨g8, 0, none⟩) (m + 1) c8 (natI (Cs.foundI (gS l) (k + 1)))) := by
            show OwnI _ _ _ _ _ _
            rw [HFS.out, natI_snoc]
            unfold OwnI
            rw [List.map_append]
            exact hown'
          clear hown hown' hgrow hnil
          go_wp2
          go_roundw
          case rel => exact ⟨k + 1, m + 1, g8, c8, by omega, by go_num, rfl, by omega, fun _ => H1.out, HO8.out, HB8.out⟩
          case measure => simp [intOf]; omega
        · have HFS : Hid (Cs.foundI (gS l) (k + 1) = Cs.foundI (gS l) k) := by
            show _ = _
            rw [Cs.foundI_succ, if_pos]
            show (!Cs.flat _) = true
            rw [hf]
            decide
          have HB3 := Lib.hid (HB2.out.trans (hb3.mono hs2))
          have HO3 := Lib.hid (own_below' HO2.out hb3)
          clear hb3 hf
          go_wp2
          go_roundw
          case rel => exact ⟨k + 1, m, g2, c2, by omega, by go_num, rfl, by omega, fun _ => H1.out, by rw [HFS.out]; exact HO3.out, HB3.out⟩
          case measure => simp [intOf]; omega
    · have hki : ¬ (k : Int) ≤ 31 := by omega
      have dki : decide ((k : Int) ≤ 31) = false := decide_eq_false hki
      have HF : Hid (signsR l = natI (Cs.foundI (gS l) 32)) := if_pos (HPOS.out (by omega))
      have HK : Hid (k = 32) := by show k = 32; omega
      have HM : Hid ((natI (Cs.foundI (gS l) 32)).length = m) := by
        have h := HO.out.1
        rw [List.length_map, Nat.mul_one, HK.out] at h
        exact h
      rw [HK.out] at HO
      clear HK
      go_wp2
      go_ret
      rw [HF.out, HM.out]
      exact ⟨_, _, rfl, HO.out, HB.out⟩
end Go.Proofs.Ytmmhcpigcdlnmaa
