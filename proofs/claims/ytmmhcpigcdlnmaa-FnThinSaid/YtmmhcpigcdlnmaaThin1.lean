/- ConsThin of the reference model. -/
import Derived.Test.YtmmhcpigcdlnmaaPicked
import Derived.Deep.RegionHeld3

namespace Go.Proofs.Ytmmhcpigcdlnmaa
open Go.RowKit
open Cs (Cn Tb)

/-- what a function gives back: a row of constraints and whether there is one -/
def ResC (w : World) (r : Option (List Cn)) (e : Ending) (w' : World) : Prop :=
  ∃ A c, e = .returned (.tuple #[.slice A (r.getD []).length c, .bool r.isSome]) ∧ OwnC w' w.heap.size A (r.getD []).length c (r.getD []) ∧ Below w.heap.size w w'
theorem resC_none {w w' : World} (hb : Below w.heap.size w w') : ResC w none (.returned (.tuple #[.slice none 0 0, .bool false])) w' := ⟨none, 0, rfl, World.ownsRow_nil _ _ _ _, hb⟩
/-- the answer of ConsThin -/
def thinO (l : List Cn) : Option (List Cn) := if satR l = true then some (Cs.skip l (Cs.thinTo l l.length)) else none
theorem thinO_no {l : List Cn} (h : satR l = false) : thinO l = none := if_neg (by rw [h]; decide)
theorem thinO_yes {l : List Cn} (h : satR l = true) : thinO l = some (Cs.skip l (Cs.thinTo l l.length)) := if_pos h
theorem satR_cons {l : List Cn} (h : satR l = true) : consOkR l = true := by unfold satR at h; rw [Bool.and_eq_true] at h; exact h.1
theorem impR_skip {l : List Cn} (h : satR l = true) (g : Nat → Bool) {k : Nat} (hk : k < l.length) : impR (Cs.skip l g) (l.getD k (0, 0, 0)) = Cs.imp (Cs.skip l g) (l.getD k (0, 0, 0)) := by
  have hp := satR_parts h
  have hs : satR (Cs.skip l g) = true := by rw [satR_skip (satR_cons h)]; exact Cs.skip_flat hp.1 hp.2.2 g
  have hc : Cs.cOk (l.getD k (0, 0, 0)) = true := hp.1 _ (by rw [List.getD_eq_getElem?_getD, List.getElem?_eq_getElem hk]; exact List.getElem_mem _)
  unfold impR
  rw [hs, hc, Bool.true_and, Bool.true_and]
theorem mark_mark (g : Nat → Bool) (k : Nat) (a b : Bool) : Cs.mark (Cs.mark g k a) k b = Cs.mark g k b := by
  funext x
  unfold Cs.mark
  by_cases hx : x = k
  · rw [if_pos hx, if_pos hx]
  · rw [if_neg hx, if_neg hx, if_neg hx]
theorem thin_next {l : List Cn} (h : satR l = true) {k : Nat} (hk : k < l.length) : Cs.mark (Cs.thinTo l k) k (impR (Cs.skip l (Cs.mark (Cs.thinTo l k) k true)) (l.getD k (0, 0, 0))) = Cs.thinTo l (k + 1) := by
  rw [impR_skip h _ hk]
  rfl
/-- the walk's memory -/
structure ThinW (w : World) (n gb : Nat) (g : Nat → Bool) (wr : World) : Prop where
  gone : Blk wr gb 4 (goneA g n)
  bel : Below w.heap.size w wr
theorem ThinW.set {w wr : World} {n gb : Nat} {g : Nat → Bool} (h : ThinW w n gb g wr) (hg : w.heap.size ≤ gb) (i : Nat) (b : Bool) : ThinW w n gb (Cs.mark g i b) (wr.setCell ⟨gb, i, none⟩ (.bool b)) := by
  have hw : Wrote gb wr (wr.setCell ⟨gb, i, none⟩ (.bool b)) := Wrote.set _ _
  refine ⟨?_, hw.below h.bel h.bel.size hg⟩
  have := Blk.put h.gone i (.bool b)
  rw [goneA_set] at this
  exact this
theorem ThinW.later {w wr w' : World} {n gb : Nat} {g : Nat → Bool} (h : ThinW w n gb g wr) (hb : Below wr.heap.size wr w') : ThinW w n gb g w' := ⟨Blk.below h.gone hb h.gone.lt, h.bel.trans (hb.mono h.bel.size)⟩

set_option maxRecDepth 100000 in
set_option maxHeartbeats 3200000 in
theorem specConsThin_any (w : World) (B : Nat) (A : Option Addr) (n c : Nat) (l : List Cn) (hB : B ≤ w.heap.size) (hl : ConR w B A n l) (hn : (n : Int) ≤ 140737488355328) :
    Calls Try.prog 28 #[.slice A n c] w (ResC w (thinO l)) := by
  have HL := Lib.hid hl
  clear hl
  go_enter Try.func28, Try.ntmps28
  go_wp2_with fail
  refine (specConsSat_any w B A n c l hB HL.out hn).mono ?_
  rintro e w1 ⟨rfl, hb1⟩
  have HB1 := Lib.hid hb1
  have hs1 := hb1.size
  clear hb1
  cases h1 : satR l with
  | false =>
    have HF := Lib.hid (thinO_no h1)
    clear h1
    go_wp2
    go_ret2
    rw [HF.out]
    exact resC_none HB1.out
  | true =>
    have H1 := Lib.hid h1
    have HF := Lib.hid (thinO_yes h1)
    have hn24 : n ≤ 24 := by have := (consOkR_ok (satR_cons h1)).2; rw [HL.out.1] at this; exact this
    have hmk := make_bools n (by omega)
    obtain ⟨gb, hgb⟩ : ∃ gb, w1.heap.size = gb := ⟨_, rfl⟩
    obtain ⟨W3, hW3⟩ : ∃ W, w1.alloc (.cells (madeCells #[Value.bool false] n) 4) = W := ⟨_, rfl⟩
    have HX0 : Hid (ThinW w n gb (Cs.thinTo l 0) W3) := by
      have hb : Below w1.heap.size w1 W3 := by rw [← hW3]; exact (Below.refl _ _).alloc (Nat.le_refl _) _
      refine ⟨?_, HB1.out.trans (hb.mono hs1)⟩
      rw [← hW3, ← hgb]
      have := Blk.made w1 4 (madeCells #[Value.bool false] n)
      rw [gone_made] at this ⊢
      exact this
    have hgbw : w.heap.size ≤ gb := by omega
    clear h1
    go_wp2
    clear hmk hW3
    go_loopw [5] (fun i wr => ∃ (k : Nat), k ≤ n ∧ i = .int .i64 k ∧ Hid (ThinW w n gb (Cs.thinTo l k) wr)) (fun i _ => n - (intOf i).toNat)
    case atStart => exact ⟨0, by omega, rfl, HX0.out⟩
    case round =>
      clear HX0
      obtain ⟨k, hk, rfl, HX⟩ := hrel
      by_cases hlt : k < n
      · have hki : (k : Int) < (n : Int) := by omega
        have q1 := (HX.out.gone.cell k).trans (goneA_get (Cs.thinTo l k) hlt)
        have q2 := HX.out.gone.thawed k
        obtain ⟨W4, hW4⟩ : ∃ W, wr.setCell ⟨gb, k, none⟩ (.bool true) = W := ⟨_, rfl⟩
        obtain ⟨G, hG⟩ : ∃ G, Cs.mark (Cs.thinTo l k) k true = G := ⟨_, rfl⟩
        have HX4 : Hid (ThinW w n gb G W4) := by show ThinW _ _ _ _ _; rw [← hW4, ← hG]; exact HX.out.set hgbw k true
        have hs4 := HX4.out.bel.size
        have HL4 := Lib.hid (HL.out.below (HX4.out.bel.mono hB))
        obtain ⟨b, off, hA, hb, hc⟩ := HL4.out.2 (by omega)
        obtain ⟨x1, x2, x3⟩ := hc k hlt
        obtain ⟨t, ht⟩ : ∃ t, l.getD k (0, 0, 0) = t := ⟨_, rfl⟩
        rw [ht] at x1 x2 x3
        obtain ⟨U, R, V⟩ := t
        subst hA
        have HNX : Hid (Cs.mark G k (impR (Cs.skip l G) (U, R, V)) = Cs.thinTo l (k + 1)) := by
          show _ = _
          rw [← hG, mark_mark, ← ht]
          exact thin_next H1.out (by rw [HL.out.1]; exact hlt)
        have HX1 := Lib.hid x1
        have HX2 := Lib.hid x2
        have HX3 := Lib.hid x3
        have hln := Cs.skip_len l G
        rw [HL.out.1] at hln
        have HSK : Hid (Calls Try.prog 60 #[.slice (some ⟨b, off, none⟩) n c, .slice (some ⟨gb, 0, none⟩) n n] W4.drew fun e w' => ∃ g2 c2, e = .returned (.slice (some ⟨g2, 0, none⟩) (Cs.skip l G).length c2) ∧ OwnC w' W4.heap.size (some ⟨g2, 0, none⟩) (Cs.skip l G).length c2 (Cs.skip l G) ∧ Below W4.heap.size W4 w') := by
          refine (l05Skip_any W4.drew B (some ⟨b, off, none⟩) n c l gb G (by show B ≤ W4.heap.size; omega) (HL4.out.keep fun _ _ => rfl) HX4.out.gone (by omega)).mono ?_
          rintro e w5 ⟨g5, c5, rfl, h1, h2⟩
          exact ⟨g5, c5, rfl, h1, ⟨h2.os, h2.tape, h2.output, h2.size, h2.block⟩⟩
        generalize Cs.thinTo l k k = z at q1
        clear hc ht hG
        go_wp2_with fail
        go_region_held3 (fun w' => w'.cell? ⟨b, off + k * 3, none⟩ = some (.int .i64 U) ∧ w'.cell? ⟨b, off + k * 3 + 1, none⟩ = some (.int .i64 R) ∧ w'.cell? ⟨b, off + k * 3 + 2, none⟩ = some (.int .i64 V))
          (first
            | go_keep
            | exact ⟨(hb5.cell (p := ⟨b, off + k * 3, none⟩) (by show b < _; omega)).trans HX1.out, (hb5.cell (p := ⟨b, off + k * 3 + 1, none⟩) (by show b < _; omega)).trans HX2.out, (hb5.cell (p := ⟨b, off + k * 3 + 2, none⟩) (by show b < _; omega)).trans HX3.out⟩
            | exact ⟨((hb5.trans (hb6.mono hb5.size)).cell (p := ⟨b, off + k * 3, none⟩) (by show b < _; omega)).trans HX1.out, ((hb5.trans (hb6.mono hb5.size)).cell (p := ⟨b, off + k * 3 + 1, none⟩) (by show b < _; omega)).trans HX2.out, ((hb5.trans (hb6.mono hb5.size)).cell (p := ⟨b, off + k * 3 + 2, none⟩) (by show b < _; omega)).trans HX3.out⟩
            | exact ⟨((Wrote.set (g := gb) (w := w6) k _).cell (b := b) (o := off + k * 3) (by have := hb5.size; have := hb6.size; omega) (by omega)).trans (((hb5.trans (hb6.mono hb5.size)).cell (p := ⟨b, off + k * 3, none⟩) (by show b < _; omega)).trans HX1.out), ((Wrote.set (g := gb) (w := w6) k _).cell (b := b) (o := off + k * 3 + 1) (by have := hb5.size; have := hb6.size; omega) (by omega)).trans (((hb5.trans (hb6.mono hb5.size)).cell (p := ⟨b, off + k * 3 + 1, none⟩) (by show b < _; omega)).trans HX2.out), ((Wrote.set (g := gb) (w := w6) k _).cell (b := b) (o := off + k * 3 + 2) (by have := hb5.size; have := hb6.size; omega) (by omega)).trans (((hb5.trans (hb6.mono hb5.size)).cell (p := ⟨b, off + k * 3 + 2, none⟩) (by show b < _; omega)).trans HX3.out)⟩)
          (first
            | (go_at_call 60
               refine HSK.out.mono ?_
               rintro e w5 ⟨g5, c5, rfl, ho5, hb5⟩)
            | (go_at_call 72
               refine (specConsImply_any w5 w5.heap.size (some ⟨g5, 0, none⟩) (Cs.skip l G).length c5 (Cs.skip l G) U R V (Nat.le_refl _) (OwnC.reads ho5) (by omega)).mono ?_
               rintro e w6 ⟨rfl, hb6⟩
               have HX6 := Lib.hid ((HX4.out.later hb5).later hb6)
               have p1 := (HX6.out.gone.cell k).trans (goneA_get G hlt)
               have p2 := HX6.out.gone.thawed k))
        have HXN : Hid (ThinW w n gb (Cs.thinTo l (k + 1)) (w6.setCell ⟨gb, k, none⟩ (.bool (impR (Cs.skip l G) (U, R, V))))) := by show ThinW _ _ _ _ _; rw [← HNX.out]; exact HX6.out.set hgbw k _
        clear ho5 hb5 hb6 p1 p2
        go_wp2
        go_roundw
        case rel => exact ⟨k + 1, by omega, by go_num, HXN.out⟩
        case measure => simp [intOf]; omega
      · obtain rfl : k = n := by omega
        have hkk : ¬ (k : Int) < (k : Int) := by omega
        have hsz := HX.out.bel.size
        rw [HL.out.1] at HF
        go_wp2_with fail
        refine (l05Skip_any wr B A k c l gb (Cs.thinTo l k) (by omega) (HL.out.below (HX.out.bel.mono hB)) HX.out.gone (by omega)).mono ?_
        rintro e w5 ⟨g5, c5, rfl, ho5, hb5⟩
        have HB5 := Lib.hid (HX.out.bel.trans (hb5.mono hsz))
        have HO5 := Lib.hid (own_base ho5 hsz)
        clear ho5 hb5
        go_wp2
        go_ret2
        rw [HF.out]
        exact ⟨_, _, rfl, HO5.out, HB5.out⟩
end Go.Proofs.Ytmmhcpigcdlnmaa
