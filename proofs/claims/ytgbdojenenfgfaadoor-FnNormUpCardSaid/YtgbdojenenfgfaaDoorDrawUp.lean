/- The draws of NormUp and of NormLevel. -/
import Derived.Test.YtgbdojenenfgfaaDoorDrawN2
import Derived.Test.YtgbdojenenfgfaaDoorNUp
import Derived.Deep.RegionWith
import Derived.Deep.RegionHeld3
namespace Go.Proofs.YtgbdojenenfgfaaDoor
open Go.RowKit

theorem own_capA' {w : World} {base n c : Nat} {A : Option Addr} {l : List (Int × Int)} (h : OwnA w base A n c l) : n ≤ c := by
  rcases h.2 with ⟨h0, h1⟩ | ⟨g', cap, cur, hv, hb, hh, hnc, _⟩
  · omega
  · injection hv with _ _ hv3
    omega

set_option maxRecDepth 100000 in
set_option maxHeartbeats 1600000 in
/-- Offs of whatever size: what is raised is not told -/
theorem specUpW_any (w : World) (B : Nat) (A : Option Addr) (n c : Nat) (l : List (Int × Int)) (x : Int) (hB : B ≤ w.heap.size) (hl : TokR w B A n l) (hn : n ≤ 1000) :
    Calls Tryd.prog 54 #[.slice A n c, .int .i64 x] w fun e w' => ∃ g cap l', e = .returned (.slice (some ⟨g, 0, none⟩) n cap) ∧ l'.length = n ∧ OwnA w' w.heap.size (some ⟨g, 0, none⟩) n cap l' ∧ Below w.heap.size w w' := by
  obtain ⟨i0, hi, hz0, hz1, hz2⟩ := info_parts info_atom
  have HO0 : Hid (OwnA (w.alloc (.cells #[] 78)) w.heap.size (some ⟨w.heap.size, 0, none⟩) 0 0 []) := World.ownsRow_made w #[] 0 (Nat.le_refl _) (by simp [maxLen]) (by simp)
  have HB0 : Hid (Below w.heap.size w (w.alloc (.cells #[] 78))) := (Below.refl _ _).alloc (Nat.le_refl _) _
  go_enter Tryd.func54, Tryd.ntmps54
  go_wp2
  go_loopw [5, 6] (fun v i wr => ∃ (k g cap : Nat) (a : List (Int × Int)), k ≤ n ∧ i = .int .i64 k ∧ v = .slice (some ⟨g, 0, none⟩) k cap ∧ a.length = k ∧ OwnA wr w.heap.size (some ⟨g, 0, none⟩) k cap a ∧ Below w.heap.size w wr) (fun _ i _ => n - (intOf i).toNat)
  case atStart => exact ⟨0, w.heap.size, 0, [], Nat.zero_le _, rfl, rfl, rfl, HO0.out, HB0.out⟩
  case round =>
    obtain ⟨k, g, cap, a, hk, rfl, rfl, hak, hown, hbel⟩ := hrel
    have hszr := hbel.size
    have HAK := Lib.hid hak
    clear hak
    by_cases hlt : k < n
    · obtain ⟨b, off, rfl, hb, hc⟩ := hl.2 (by omega)
      obtain ⟨e1, e2⟩ := hc k hlt
      have HL := Lib.hid hl
      generalize l.getD k (0, 0) = t at e1 e2
      obtain ⟨p, y⟩ := t
      simp only at e1 e2
      have k1 := (hbel.cell (p := ⟨b, off + k * 2, none⟩) (by show b < _; omega)).trans e1
      have k2 := (hbel.cell (p := ⟨b, off + k * 2 + 1, none⟩) (by show b < _; omega)).trans e2
      obtain ⟨z, hw1⟩ : ∃ z, IntKind.i64.wrap (y + x) = z := ⟨_, rfl⟩
      have hki : (k : Int) < (n : Int) := by omega
      have H1 : Hid (OwnA (wr.alloc (.cells #[.int .i64 p, .int .i64 z] 78)).drew w.heap.size (some ⟨g, 0, none⟩) k cap a) := (hown.alloc _).drew
      have H2 : Hid (Below w.heap.size w (wr.alloc (.cells #[.int .i64 p, .int .i64 z] 78)).drew) := (hbel.alloc hszr _).drew
      have H3 : Hid (∀ j u, ([Value.int .i64 p, .int .i64 z] : List Value)[j]? = some u → (wr.alloc (.cells #[.int .i64 p, .int .i64 z] 78)).drew.cell? ((⟨wr.heap.size, 0, none⟩ : Addr).add j) = some u) := World.news_of_block (cs := #[.int .i64 p, .int .i64 z]) (t := 78) (fr := (0, 0)) (heap_alloc_new wr _)
      have HGL : Hid (∀ j, (Value.slice (some ⟨g, 0, none⟩) k cap).ownBlock = some j → w.heap.size ≤ j) := fun j h => (hown.lt j h).1
      have HE1 := Lib.hid e1
      have HE2 := Lib.hid e2
      have hbw : b < w.heap.size := by omega
      clear e1 e2 hc hl hown
      go_wp2_with fail
      go_region_held3 (fun w' => w'.cell? ⟨b, off + k * 2, none⟩ = some (.int .i64 p) ∧ w'.cell? ⟨b, off + k * 2 + 1, none⟩ = some (.int .i64 y))
        (first
          | go_keep
          | exact ⟨((H2.out.grown hgrow (by simp; omega) HGL.out).cell (p := ⟨b, off + k * 2, none⟩) hbw).trans HE1.out, ((H2.out.grown hgrow (by simp; omega) HGL.out).cell (p := ⟨b, off + k * 2 + 1, none⟩) hbw).trans HE2.out⟩)
        ((refine step_append_lies _ (by rfl) _ _ _ (by rfl) w.heap.size 78 i0 _ 2 16 Tryd.underlying38 hi hz0 hz1 hz2 rfl (by omega) (.slice (some ⟨g, 0, none⟩) k cap) k (tokCells a) (by rfl) H1.out
            ⟨wr.heap.size, 0, none⟩ 1 1 [.int .i64 p, .int .i64 z] (by rfl) (by rfl) H3.out (by simp [Value.oneCell']) (by omega) (by unfold maxLen; omega) (by omega) (by simp; omega) (wr.heap.size + 1) (by simp) ?_; intro g' cap' w3 hown' hgrow hat hlt3))
      have HB3 : Hid (Below w.heap.size w w3) := H2.out.grown hgrow (by simp; omega) HGL.out
      have HW : Hid (OwnA w3 w.heap.size (some ⟨g', 0, none⟩) (k + 1) cap' (a ++ [(p, z)])) := by
        show OwnA _ _ _ _ _ _
        unfold OwnA
        rw [tokCells_append]
        exact hown'
      clear hown' hgrow hat hlt3 hw1
      go_wp2
      go_roundw
      case rel => exact ⟨k + 1, g', cap', a ++ [(p, z)], by omega, by go_num, rfl, by rw [List.length_append, HAK.out]; rfl, HW.out, HB3.out⟩
      case measure => simp [intOf]; omega
    · obtain rfl : k = n := by omega
      have HW := Lib.hid hown
      clear hl hown
      go_wp2
      go_ret
      exact ⟨g, cap, a, rfl, HAK.out, HW.out, hbel⟩

/-- a row of atoms that a draw has left -/
def DrawA (w : World) (e : Ending) (w' : World) : Prop :=
  ∃ g cap l, e = .returned (.slice (some ⟨g, 0, none⟩) l.length cap) ∧ l.length ≤ 7 ∧ OwnA w' w.heap.size (some ⟨g, 0, none⟩) l.length cap l ∧ Below w.heap.size w w'

def upv (rd rb : Nat) (vc : Int) : Int := if rd = 0 then rb else if rd = 1 then 1000 else if rd = 2 then vc else 997
theorem upv_cell (rd rb : Nat) (vc : Int) (h : rd < 4) (X : World) : (X.alloc (.cells #[.int .i64 rb, .int .i64 1000, .int .i64 vc, .int .i64 997] 3)).cell? ⟨X.heap.size, rd, none⟩ = some (.int .i64 (upv rd rb vc)) := by
  rw [(Blk.made X 3 _).cell rd]
  rcases (show rd = 0 ∨ rd = 1 ∨ rd = 2 ∨ rd = 3 by omega) with rfl | rfl | rfl | rfl <;> rfl
theorem kp_cell' {bc g i : Nat} {a b : World} {v : Value} (hk : Kp bc a b) (hc : a.cell? ⟨g, i, none⟩ = some v) (hne : g ≠ bc) : b.cell? ⟨g, i, none⟩ = some v :=
  (World.grownBy.cell_far hk ⟨g, i, none⟩ (World.block_lt_of_cell? a _ hc) (fun he => by injection he with he; exact hne he)).trans hc

set_option maxRecDepth 100000 in
set_option maxHeartbeats 8000000 in
theorem drawNormUp_any (w : World) (B : Nat) (A : Option Addr) (n c : Nat) (hB : B ≤ w.heap.size) (hb : BytR w B A n) (hn : n ≤ 1048576) :
    Calls Tryd.prog 18 #[.slice A n c] w fun e w' => ∃ g cap l x, e = .returned (.tuple #[.slice (some ⟨g, 0, none⟩) l.length cap, .int .i64 x]) ∧ l.length ≤ 7 ∧ OwnA w' w.heap.size (some ⟨g, 0, none⟩) l.length cap l ∧ Below w.heap.size w w' := by
  go_enter Tryd.func18, Tryd.ntmps18
  go_wp2_with fail
  refine (open_any w B A n c hB hb hn).mono ?_
  rintro e w1 ⟨rfl, hb1, hc1⟩
  have hs1 := hb1.size
  have hlt := hc1.lt
  have hc0 : Cur w1.drew w.heap.size A n c 0 := hc1
  have hk0 : Kp w.heap.size w1 w1.drew := (Kp.refl _ _).drew
  obtain ⟨bc, hbc⟩ : ∃ bc, w.heap.size = bc := ⟨_, rfl⟩
  rw [hbc] at hc0 hk0 hlt ⊢
  go_wp2_with fail
  go_region_with (first
    | (go_at_call 52; refine (badNorm_any _ bc A n c 0 ?_ (by omega) hn).mono ?_; exact hc0; rintro e wa ⟨ga, capa, la, rfl, ha1, ha2, hoa0, hca, hka⟩; have hla := hca.lt; have hoa : OwnA wa w1.heap.size (some ⟨ga, 0, none⟩) la.length capa la := hoa0)
    | (go_at_call_of 39 (Value.int IntKind.i64 5); refine (pick_any _ bc A n c 20 5 ?_ (by omega) (by omega) hn).mono ?_; exact hca; rintro e wb ⟨rb, rfl, hrb, hcb, hkb⟩; have hlb := hcb.lt)
    | (go_at_call 40; refine (raw_any _ bc A n c 21 ?_ (by omega) hn).mono ?_; exact hcb; rintro e wc ⟨vc, rfl, hcc, hkc⟩; have hlc := hcc.lt)
    | (go_at_call_of 39 (Value.int IntKind.i64 4); refine (pick_any _ bc A n c 23 4 ?_ (by omega) (by omega) hn).mono ?_; (first | exact hcc | exact hcc.alloc _); rintro e wd ⟨rd, rfl, hrd, hcd, hkd⟩
       have hld' := hcd.lt
       have hrd4 : rd < 4 := by omega
       have hld := upv_cell rd rb vc hrd4
       try (have hld3 := kp_cell' hkd (hld wc) (by omega))))
  all_goals
    go_wp2
    refine bodyPost_ret (v := .tuple #[.slice (some ⟨ga, 0, none⟩) la.length capa, .int .i64 (upv rd rb vc)]) (by simp [results, Tryd.results18, go_sem]) rfl ?_
    refine ⟨ga, capa, la, upv rd rb vc, rfl, ha2, ?_, ?_⟩
    · first
        | exact own_base (Kp.own (World.ownsRow.alloc (Kp.own (Kp.own hoa hkb (by omega)) hkc (by omega)) _) hkd (by omega)) (by omega)
        | exact own_base (World.ownsRow.alloc (Kp.own (Kp.own (Kp.own hoa hkb (by omega)) hkc (by omega)) hkd (by omega)) _) (by omega)
    · first
        | exact Kp.below hb1 (((((hk0.trans hka).trans hkb).trans hkc).alloc _).trans hkd) (by omega) hs1
        | exact Kp.below hb1 (((((hk0.trans hka).trans hkb).trans hkc).trans hkd).alloc _) (by omega) hs1

set_option maxRecDepth 100000 in
set_option maxHeartbeats 4000000 in
theorem drawNormLevel_any (w : World) (B : Nat) (A : Option Addr) (n c : Nat) (hB : B ≤ w.heap.size) (hb : BytR w B A n) (hn : n ≤ 1048576) :
    Calls Tryd.prog 23 #[.slice A n c] w (DrawA w) := by
  go_enter Tryd.func23, Tryd.ntmps23
  go_wp2_with fail
  refine (open_any w B A n c hB hb hn).mono ?_
  rintro e w1 ⟨rfl, hb1, hc1⟩
  have hs1 := hb1.size
  have hlt := hc1.lt
  go_wp2_with fail
  refine (badNorm_any w1 w.heap.size A n c 0 hc1 (by omega) hn).mono ?_
  rintro e w2 ⟨ga, ca, la, rfl, ha1, ha2, hoa, hc2, hk2⟩
  have hs2 := hk2.size
  go_wp2_with fail
  refine (once_any w2 w.heap.size A n c _ 6 hc2 (by omega) (by omega) hn).mono ?_
  rintro e w3 ⟨r, rfl, hc3, hk3⟩
  have hoa3 := Kp.own hoa hk3 (by omega)
  have hb3 := Kp.below hb1 (hk2.trans hk3) (Nat.le_refl _) hs1
  have hs3 := hb3.size
  have hs13 : w1.heap.size ≤ w3.heap.size := (hk2.trans hk3).size
  have hca := own_capA' hoa3
  have HA := Lib.hid (own_base (base' := w.heap.size) hoa3 hs1)
  have HA1 := Lib.hid hoa3
  have HB3 := Lib.hid hb3
  obtain ⟨L, hL⟩ : ∃ L, la.length = L := ⟨_, rfl⟩
  rw [hL] at HA HA1 hca ha2 ⊢
  have HLL := Lib.hid hL
  clear hoa hoa3 hk2 hk3 hc1 hc2 hb3 hL ha1
  cases r with
  | false =>
    clear hc3
    go_wp2
    go_ret
    exact ⟨ga, ca, la, by rw [HLL.out]; rfl, by rw [HLL.out]; omega, by rw [HLL.out]; exact HA.out, HB3.out⟩
  | true =>
    by_cases h0 : L = 0
    · subst h0
      clear hc3
      go_wp2
      go_ret
      exact ⟨ga, ca, la, by rw [HLL.out]; rfl, by rw [HLL.out]; omega, by rw [HLL.out]; exact HA.out, HB3.out⟩
    · have hL1 : (0 : Int) < (L : Int) := by omega
      have h1c : (1 : Int) ≤ (ca : Int) := by omega
      have h1c' : 1 ≤ ca := by omega
      have hc0 : Cur w3.drew w.heap.size A n c (0 + 20 + 1) := hc3
      have hk0 : Kp w.heap.size w3 w3.drew := (Kp.refl _ _).drew
      obtain ⟨bc, hbc⟩ : ∃ bc, w.heap.size = bc := ⟨_, rfl⟩
      rw [hbc] at hc0 hk0 hlt
      have hR1 : Hid (∀ wx : World, Kp bc w3.drew wx → TokR wx wx.heap.size (some ⟨ga, 0, none⟩) 1 [la.getD 0 (0, 0)]) := by
        intro wx hk
        have ho := Kp.own (World.ownsRow.drew HA1.out) hk (by omega)
        have hr := OwnA.reads ho
        obtain ⟨b, off, hbo, hbl, hcc⟩ := hr.2 (by omega)
        injection hbo with hbo
        injection hbo with hbo1 hbo2
        subst hbo1; subst hbo2
        refine ⟨rfl, fun _ => ⟨ga, 0, rfl, hbl, fun k hk1 => ?_⟩⟩
        obtain rfl : k = 0 := by omega
        exact hcc 0 (by omega)
      rw [hbc]
      clear hc3 h0
      go_wp2_with fail
      go_region_with (first
        | (go_at_call 39; refine (pick_any _ bc A n c 21 8 ?_ (by omega) (by omega) hn).mono ?_; exact hc0; rintro e wb ⟨rb, rfl, hrb, hcb, hkb⟩
           have hw1 : IntKind.i64.wrap (18 + (rb : Int)) = 18 + (rb : Int) := by rw [IntKind.wrap_i64]; omega)
        | (go_at_call 54; refine (specUpW_any wb wb.heap.size _ 1 ca [la.getD 0 (0, 0)] (18 + (rb : Int)) (Nat.le_refl _) (hR1.out wb hkb) (by omega)).mono ?_; rintro e wc ⟨gc, cc, lc, rfl, hlc, hoc, hbc2⟩))
      all_goals
        have hkk := (hk0.trans hkb)
        have HBB := Lib.hid ((Kp.below HB3.out hkk (by omega) hs3).trans (hbc2.mono (Nat.le_trans hs3 hkk.size)))
        have HOC := Lib.hid (own_base (base' := w.heap.size) hoc (Nat.le_trans hs3 hkk.size))
        have HLC := Lib.hid hlc
        clear hw1 hoc hlc hbc2 hkk hkb hcb
        go_wp2
        go_ret
        exact ⟨gc, cc, lc, by rw [HLC.out]; rfl, by rw [HLC.out]; omega, by rw [HLC.out]; exact HOC.out, HBB.out⟩
end Go.Proofs.YtgbdojenenfgfaaDoor
