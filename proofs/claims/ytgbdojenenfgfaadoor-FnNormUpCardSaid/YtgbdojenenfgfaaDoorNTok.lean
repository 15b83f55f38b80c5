/- The program's tokens of an atom. -/
import Derived.Test.YtgbdojenenfgfaaDoorNRep
import Derived.Test.YtgbdojenenfgfaaDoorNUp
import Derived.Test.YtgbdojenenfgfaaDoorNMath4
namespace Go.Proofs.YtgbdojenenfgfaaDoor
open Go.RowKit

/-- an append in a region that draws its order, onto a row of the call's own -/
theorem step_append_own {P : Program} (w : World) {ops : Array Oper} {o : Oper} {a : Act} {K : Act → World → Prop} {Q : Exit → Act → World → Prop} {E : Prop} (hgd : o.guard = none) (s x : Operand) (t : TypeId)
    (ho : o.op = .call { callee := .builtin .append, args := #[s, x], argTypes := #[t, t] })
    (base : Nat) (e : TypeId) (i : TypeInfo) (z : Value) (size bytes : Nat) (ht : P.underlying t = some (.slice e)) (hi : P.info? e = some i) (hz : i.zero = some z)
    (hsize : i.size = size) (hby : i.bytes = bytes) (hzs : z.cells.size = size) (hsz : 0 < size)
    (v : Value) (n : Nat) (xs : List Value) (hs : a.eval s = v) (hown : w.ownsRow base e size v n xs)
    (ad : Addr) (m c : Nat) (news : List Value) (hx : a.eval x = .slice (some ad) m c) (hl : news.length = m * size) (hnews : ∀ j u, news[j]? = some u → w.cell? (ad.add j) = some u) (h1 : ∀ u ∈ news, u.oneCell' = true)
    (h63 : n + m ≤ maxLen) (hbytes : (n + m) * bytes ≤ 140737488355328) (hbase : base ≤ w.heap.size)
    (h : ∀ v' w', w'.ownsRow base e size v' (n + m) (xs ++ news) → w.grownBy w' v.ownBlock → (v' = .slice none 0 0 ↔ v = .slice none 0 0 ∧ m = 0) → K (a.put o.dst v') w') :
    if Region.wanted o (yielded ops a.tmps) = true then Oper.wp P o a w K Q else E := by
  rw [if_pos (by simp [Region.wanted, hgd])]
  exact wp_append_own w s x t ho base e i z size bytes ht hi hz hsize hby hzs hsz v n xs hs hown ad m c news hx hl hnews h1 h63 hbytes hbase h

theorem own_litT {w : World} {g base : Nat} {a b : Int} (h : Blk w g 71 #[.int .i64 a, .int .i64 b]) (hb : base ≤ g) : OwnT w base (some ⟨g, 0, none⟩) 1 1 [(a, b)] :=
  ⟨rfl, .inr ⟨g, 1, #[.int .i64 a, .int .i64 b], rfl, hb, h, Nat.le_refl _, by simp [maxLen], rfl, rfl⟩⟩

set_option maxRecDepth 100000 in
set_option maxHeartbeats 3200000 in
theorem atomToks_any (w : World) (p : Int) (x : Nat) (hx : x ≤ 1000) :
    Calls Tryd.prog 59 #[.agg #[.int .i64 p, .int .i64 x]] w fun e w' => ∃ g cap, e = .returned (.slice (some ⟨g, 0, none⟩) (x + 1) cap) ∧ OwnT w' w.heap.size (some ⟨g, 0, none⟩) (x + 1) cap (Nm.atToks (p, (x : Int))) ∧ Below w.heap.size w w' := by
  obtain ⟨i0, hi, hz0, hz1, hz2⟩ := info_parts info_tok
  have HT : Hid (∀ t : Int × Int, tokCells [t] ++ tokCells (sxs x) = tokCells (t :: sxs x)) := fun t => by rw [← tokCells_append]; rfl
  have HS : Hid ((sxs x).length = x) := by show _ = _; simp [sxs]
  have hsl : (tokCells (sxs x)).length = x * 2 := by rw [tokCells_len, HS.out]
  by_cases hp : p = -1
  · subst hp
    have HA : Hid (Nm.atToks (-1, (x : Int)) = (0, 0) :: sxs x) := by show _ = _; simp [Nm.atToks, Nm.leafTk, sxs]
    have hU : ((w.alloc (.cells #[.int .i64 (-1), .int .i64 (x : Int)] 78)).alloc (.cells #[.int .i64 0, .int .i64 0] 71)).heap.size = w.heap.size + 1 + 1 := by simp
    have HL1 : Hid (Blk ((((w.alloc (.cells #[.int .i64 (-1), .int .i64 (x : Int)] 78)).alloc (.cells #[.int .i64 0, .int .i64 0] 71)).alloc (.cells #[.int .i64 0, .int .i64 0] 71)).alloc (.cells #[.int .i64 1, .int .i64 0] 71)).drew (w.heap.size + 1 + 1) 71 #[.int .i64 0, .int .i64 0]) := by
      have h := (Blk.made ((w.alloc (.cells #[.int .i64 (-1), .int .i64 (x : Int)] 78)).alloc (.cells #[.int .i64 0, .int .i64 0] 71)) 71 #[.int .i64 0, .int .i64 0]).alloc (.cells #[.int .i64 1, .int .i64 0] 71)
      rw [hU] at h
      exact Lib.hid h
    have HL2 : Hid (Blk ((((w.alloc (.cells #[.int .i64 (-1), .int .i64 (x : Int)] 78)).alloc (.cells #[.int .i64 0, .int .i64 0] 71)).alloc (.cells #[.int .i64 1, .int .i64 0] 71)).alloc (.cells #[.int .i64 0, .int .i64 0] 71)).drew (w.heap.size + 1 + 1 + 1) 71 #[.int .i64 0, .int .i64 0]) := by
      have h := Blk.made (((w.alloc (.cells #[.int .i64 (-1), .int .i64 (x : Int)] 78)).alloc (.cells #[.int .i64 0, .int .i64 0] 71)).alloc (.cells #[.int .i64 1, .int .i64 0] 71)) 71 #[.int .i64 0, .int .i64 0]
      have e : (((w.alloc (.cells #[.int .i64 (-1), .int .i64 (x : Int)] 78)).alloc (.cells #[.int .i64 0, .int .i64 0] 71)).alloc (.cells #[.int .i64 1, .int .i64 0] 71)).heap.size = w.heap.size + 1 + 1 + 1 := by simp
      rw [e] at h
      exact Lib.hid h
    have HBU : Hid (Below w.heap.size w ((w.alloc (.cells #[.int .i64 (-1), .int .i64 (x : Int)] 78)).alloc (.cells #[.int .i64 0, .int .i64 0] 71))) := ((Below.refl _ _).alloc (Nat.le_refl _) _).alloc (by simp) _
    clear hU
    go_enter Tryd.func59, Tryd.ntmps59
    go_wp2_with fail
    go_region_held3 (fun w' => w'.cell? ⟨w.heap.size + 1, 0, none⟩ = some (.int .i64 0) ∧ w'.cell? ⟨w.heap.size + 1, 1, none⟩ = some (.int .i64 0) ∧ w'.cell? ⟨w.heap.size, 1, none⟩ = some (.int .i64 (x : Int)))
      (first
        | go_keep
        | (go_split_ands; refine ⟨?_, ?_, ?_⟩ <;> (rw [hb2.cell (by first | (simp; done) | (simp; omega))]; assumption))
        | (go_split_ands; refine ⟨(hgrow.cell_far ⟨w.heap.size + 1, 0, none⟩ (by first | (show w.heap.size + 1 < _; omega) | (simp; omega)) (hne (w.heap.size + 1) (by omega))).trans ?_, (hgrow.cell_far ⟨w.heap.size + 1, 1, none⟩ (by first | (show w.heap.size + 1 < _; omega) | (simp; omega)) (hne (w.heap.size + 1) (by omega))).trans ?_, (hgrow.cell_far ⟨w.heap.size, 1, none⟩ (by first | (show w.heap.size < _; omega) | (simp; omega)) (hne (w.heap.size) (by omega))).trans ?_⟩ <;> assumption))
      (first
        | (go_at_call 51; refine (repeat_big x hx _ _ _ (by simp) (by simp [go_sem]) (by simp [go_sem])).mono ?_; rintro e w2 ⟨g, c2, rfl, ho2, hb2⟩; rw [HS.out] at ho2 ⊢)
        | (refine step_append_own _ (by rfl) _ _ _ (by rfl) w.heap.size 71 i0 _ 2 16 Tryd.underlying24 hi hz0 hz1 hz2 rfl (by omega) (.slice (some ⟨w.heap.size + 1 + 1, 0, none⟩) 1 1) 1 (tokCells [(0, 0)]) (by rfl) ?hown ⟨g, 0, none⟩ x c2 (tokCells (sxs x)) (by rfl) hsl ?hnews (tokCells_one _) (by unfold maxLen; omega) (by omega) ?hbase ?_
           case hown => exact own_litT (HL1.out.below hb2 (by simp)) (by omega)
           case hnews => exact fun j u hu => by first | exact ho2.cells (g := g) rfl j u hu | exact (World.ownsRow.alloc ho2 _).cells (g := g) rfl j u hu
           case hbase => have := hb2.size; simp at this; first | omega | (simp; omega)
           intro v' w3 hown' hgrow hnil
           have hsz2 := hb2.size
           simp at hsz2
           have hge : w.heap.size + 2 ≤ w.heap.size + 1 + 1 := by omega
           have HB3 : Hid (Below w.heap.size w w3) := by
             refine Lib.hid (Below.grown (B := w.heap.size) (Below.trans ((HBU.out.alloc (by simp; omega) _).alloc (by simp; omega) _).drew (hb2.mono (by simp; omega))) hgrow (by first | omega | (simp; omega)) (fun j h => ?_))
             have h' : w.heap.size + 1 + 1 = j := by simpa [Value.ownBlock] using h
             omega
           have hne : ∀ q, q < w.heap.size + 2 → some q ≠ (Value.slice (some ⟨w.heap.size + 1 + 1, 0, none⟩) 1 1).ownBlock := fun q hq h => by have h' : q = w.heap.size + 1 + 1 := (by simpa [Value.ownBlock] using h); omega)
        | (refine step_append_own _ (by rfl) _ _ _ (by rfl) w.heap.size 71 i0 _ 2 16 Tryd.underlying24 hi hz0 hz1 hz2 rfl (by omega) (.slice (some ⟨w.heap.size + 1 + 1 + 1, 0, none⟩) 1 1) 1 (tokCells [(0, 0)]) (by rfl) ?hown ⟨g, 0, none⟩ x c2 (tokCells (sxs x)) (by rfl) hsl ?hnews (tokCells_one _) (by unfold maxLen; omega) (by omega) ?hbase ?_
           case hown => exact own_litT (HL2.out.below hb2 (by simp)) (by omega)
           case hnews => exact fun j u hu => by first | exact ho2.cells (g := g) rfl j u hu | exact (World.ownsRow.alloc ho2 _).cells (g := g) rfl j u hu
           case hbase => have := hb2.size; simp at this; first | omega | (simp; omega)
           intro v' w3 hown' hgrow hnil
           have hsz2 := hb2.size
           simp at hsz2
           have hge : w.heap.size + 2 ≤ w.heap.size + 1 + 1 + 1 := by omega
           have HB3 : Hid (Below w.heap.size w w3) := by
             refine Lib.hid (Below.grown (B := w.heap.size) (Below.trans ((HBU.out.alloc (by simp; omega) _).alloc (by simp; omega) _).drew (hb2.mono (by simp; omega))) hgrow (by first | omega | (simp; omega)) (fun j h => ?_))
             have h' : w.heap.size + 1 + 1 + 1 = j := by simpa [Value.ownBlock] using h
             omega
           have hne : ∀ q, q < w.heap.size + 2 → some q ≠ (Value.slice (some ⟨w.heap.size + 1 + 1 + 1, 0, none⟩) 1 1).ownBlock := fun q hq h => by have h' : q = w.heap.size + 1 + 1 + 1 := (by simpa [Value.ownBlock] using h); omega)
        | (refine step_append_own _ (by rfl) _ _ _ (by rfl) w.heap.size 71 i0 _ 2 16 Tryd.underlying24 hi hz0 hz1 hz2 rfl (by omega) (.slice (some ⟨w2.heap.size, 0, none⟩) 1 1) 1 (tokCells [(0, 0)]) (by rfl) ?hown ⟨g, 0, none⟩ x c2 (tokCells (sxs x)) (by rfl) hsl ?hnews (tokCells_one _) (by unfold maxLen; omega) (by omega) ?hbase ?_
           case hown => exact own_litT (Blk.made _ _ _) (by have := hb2.size; simp at this; omega)
           case hnews => exact fun j u hu => by first | exact ho2.cells (g := g) rfl j u hu | exact (World.ownsRow.alloc ho2 _).cells (g := g) rfl j u hu
           case hbase => have := hb2.size; simp at this; first | omega | (simp; omega)
           intro v' w3 hown' hgrow hnil
           have hsz2 := hb2.size
           simp at hsz2
           have hge : w.heap.size + 2 ≤ w2.heap.size := by omega
           have HB3 : Hid (Below w.heap.size w w3) := by
             refine Lib.hid (Below.grown (B := w.heap.size) ((Below.trans (HBU.out.alloc (by simp; omega) _).drew (hb2.mono (by simp; omega))).alloc (by omega) _) hgrow (by first | omega | (simp; omega)) (fun j h => ?_))
             have h' : w2.heap.size = j := by simpa [Value.ownBlock] using h
             omega
           have hne : ∀ q, q < w.heap.size + 2 → some q ≠ (Value.slice (some ⟨w2.heap.size, 0, none⟩) 1 1).ownBlock := fun q hq h => by have h' : q = w2.heap.size := (by simpa [Value.ownBlock] using h); omega))
    all_goals
      obtain ⟨g', cap', rfl⟩ : ∃ g' cap', v' = .slice (some ⟨g', 0, none⟩) (1 + x) cap' := by
        rcases hown'.2 with ⟨_, h⟩ | ⟨g', cap', _, h, _⟩
        · omega
        · exact ⟨g', cap', h⟩
      have HW : Hid (OwnT w3 w.heap.size (some ⟨g', 0, none⟩) (x + 1) cap' (Nm.atToks ((-1), (x : Int)))) := by
        show OwnT _ _ _ _ _ _
        rw [HA.out, Nat.add_comm x 1]
        unfold OwnT
        rw [← HT.out]
        exact hown'
      clear hown' hgrow hnil hsz2 hge hne
      go_wp2
      go_ret
      exact ⟨g', cap', by rw [Nat.add_comm x 1]; rfl, HW.out, HB3.out⟩
  · have HA : Hid (Nm.atToks (p, (x : Int)) = (4, p) :: sxs x) := by show _ = _; simp [Nm.atToks, Nm.leafTk, sxs, hp]
    have dp : (p != -1) = true := by simpa using hp
    clear hp
    have hU : ((w.alloc (.cells #[.int .i64 p, .int .i64 (x : Int)] 78)).alloc (.cells #[.int .i64 4, .int .i64 p] 71)).heap.size = w.heap.size + 1 + 1 := by simp
    have HL1 : Hid (Blk ((((w.alloc (.cells #[.int .i64 p, .int .i64 (x : Int)] 78)).alloc (.cells #[.int .i64 4, .int .i64 p] 71)).alloc (.cells #[.int .i64 4, .int .i64 p] 71)).alloc (.cells #[.int .i64 1, .int .i64 0] 71)).drew (w.heap.size + 1 + 1) 71 #[.int .i64 4, .int .i64 p]) := by
      have h := (Blk.made ((w.alloc (.cells #[.int .i64 p, .int .i64 (x : Int)] 78)).alloc (.cells #[.int .i64 4, .int .i64 p] 71)) 71 #[.int .i64 4, .int .i64 p]).alloc (.cells #[.int .i64 1, .int .i64 0] 71)
      rw [hU] at h
      exact Lib.hid h
    have HL2 : Hid (Blk ((((w.alloc (.cells #[.int .i64 p, .int .i64 (x : Int)] 78)).alloc (.cells #[.int .i64 4, .int .i64 p] 71)).alloc (.cells #[.int .i64 1, .int .i64 0] 71)).alloc (.cells #[.int .i64 4, .int .i64 p] 71)).drew (w.heap.size + 1 + 1 + 1) 71 #[.int .i64 4, .int .i64 p]) := by
      have h := Blk.made (((w.alloc (.cells #[.int .i64 p, .int .i64 (x : Int)] 78)).alloc (.cells #[.int .i64 4, .int .i64 p] 71)).alloc (.cells #[.int .i64 1, .int .i64 0] 71)) 71 #[.int .i64 4, .int .i64 p]
      have e : (((w.alloc (.cells #[.int .i64 p, .int .i64 (x : Int)] 78)).alloc (.cells #[.int .i64 4, .int .i64 p] 71)).alloc (.cells #[.int .i64 1, .int .i64 0] 71)).heap.size = w.heap.size + 1 + 1 + 1 := by simp
      rw [e] at h
      exact Lib.hid h
    have HBU : Hid (Below w.heap.size w ((w.alloc (.cells #[.int .i64 p, .int .i64 (x : Int)] 78)).alloc (.cells #[.int .i64 4, .int .i64 p] 71))) := ((Below.refl _ _).alloc (Nat.le_refl _) _).alloc (by simp) _
    clear hU
    go_enter Tryd.func59, Tryd.ntmps59
    go_wp2_with fail
    go_region_held3 (fun w' => w'.cell? ⟨w.heap.size + 1, 0, none⟩ = some (.int .i64 4) ∧ w'.cell? ⟨w.heap.size + 1, 1, none⟩ = some (.int .i64 p) ∧ w'.cell? ⟨w.heap.size, 1, none⟩ = some (.int .i64 (x : Int)))
      (first
        | go_keep
        | (go_split_ands; refine ⟨?_, ?_, ?_⟩ <;> (rw [hb2.cell (by first | (simp; done) | (simp; omega))]; assumption))
        | (go_split_ands; refine ⟨(hgrow.cell_far ⟨w.heap.size + 1, 0, none⟩ (by first | (show w.heap.size + 1 < _; omega) | (simp; omega)) (hne (w.heap.size + 1) (by omega))).trans ?_, (hgrow.cell_far ⟨w.heap.size + 1, 1, none⟩ (by first | (show w.heap.size + 1 < _; omega) | (simp; omega)) (hne (w.heap.size + 1) (by omega))).trans ?_, (hgrow.cell_far ⟨w.heap.size, 1, none⟩ (by first | (show w.heap.size < _; omega) | (simp; omega)) (hne (w.heap.size) (by omega))).trans ?_⟩ <;> assumption))
      (first
        | (go_at_call 51; refine (repeat_big x hx _ _ _ (by simp) (by simp [go_sem]) (by simp [go_sem])).mono ?_; rintro e w2 ⟨g, c2, rfl, ho2, hb2⟩; rw [HS.out] at ho2 ⊢)
        | (refine step_append_own _ (by rfl) _ _ _ (by rfl) w.heap.size 71 i0 _ 2 16 Tryd.underlying24 hi hz0 hz1 hz2 rfl (by omega) (.slice (some ⟨w.heap.size + 1 + 1, 0, none⟩) 1 1) 1 (tokCells [(4, p)]) (by rfl) ?hown ⟨g, 0, none⟩ x c2 (tokCells (sxs x)) (by rfl) hsl ?hnews (tokCells_one _) (by unfold maxLen; omega) (by omega) ?hbase ?_
           case hown => exact own_litT (HL1.out.below hb2 (by simp)) (by omega)
           case hnews => exact fun j u hu => by first | exact ho2.cells (g := g) rfl j u hu | exact (World.ownsRow.alloc ho2 _).cells (g := g) rfl j u hu
           case hbase => have := hb2.size; simp at this; first | omega | (simp; omega)
           intro v' w3 hown' hgrow hnil
           have hsz2 := hb2.size
           simp at hsz2
           have hge : w.heap.size + 2 ≤ w.heap.size + 1 + 1 := by omega
           have HB3 : Hid (Below w.heap.size w w3) := by
             refine Lib.hid (Below.grown (B := w.heap.size) (Below.trans ((HBU.out.alloc (by simp; omega) _).alloc (by simp; omega) _).drew (hb2.mono (by simp; omega))) hgrow (by first | omega | (simp; omega)) (fun j h => ?_))
             have h' : w.heap.size + 1 + 1 = j := by simpa [Value.ownBlock] using h
             omega
           have hne : ∀ q, q < w.heap.size + 2 → some q ≠ (Value.slice (some ⟨w.heap.size + 1 + 1, 0, none⟩) 1 1).ownBlock := fun q hq h => by have h' : q = w.heap.size + 1 + 1 := (by simpa [Value.ownBlock] using h); omega)
        | (refine step_append_own _ (by rfl) _ _ _ (by rfl) w.heap.size 71 i0 _ 2 16 Tryd.underlying24 hi hz0 hz1 hz2 rfl (by omega) (.slice (some ⟨w.heap.size + 1 + 1 + 1, 0, none⟩) 1 1) 1 (tokCells [(4, p)]) (by rfl) ?hown ⟨g, 0, none⟩ x c2 (tokCells (sxs x)) (by rfl) hsl ?hnews (tokCells_one _) (by unfold maxLen; omega) (by omega) ?hbase ?_
           case hown => exact own_litT (HL2.out.below hb2 (by simp)) (by omega)
           case hnews => exact fun j u hu => by first | exact ho2.cells (g := g) rfl j u hu | exact (World.ownsRow.alloc ho2 _).cells (g := g) rfl j u hu
           case hbase => have := hb2.size; simp at this; first | omega | (simp; omega)
           intro v' w3 hown' hgrow hnil
           have hsz2 := hb2.size
           simp at hsz2
           have hge : w.heap.size + 2 ≤ w.heap.size + 1 + 1 + 1 := by omega
           have HB3 : Hid (Below w.heap.size w w3) := by
             refine Lib.hid (Below.grown (B := w.heap.size) (Below.trans ((HBU.out.alloc (by simp; omega) _).alloc (by simp; omega) _).drew (hb2.mono (by simp; omega))) hgrow (by first | omega | (simp; omega)) (fun j h => ?_))
             have h' : w.heap.size + 1 + 1 + 1 = j := by simpa [Value.ownBlock] using h
             omega
           have hne : ∀ q, q < w.heap.size + 2 → some q ≠ (Value.slice (some ⟨w.heap.size + 1 + 1 + 1, 0, none⟩) 1 1).ownBlock := fun q hq h => by have h' : q = w.heap.size + 1 + 1 + 1 := (by simpa [Value.ownBlock] using h); omega)
        | (refine step_append_own _ (by rfl) _ _ _ (by rfl) w.heap.size 71 i0 _ 2 16 Tryd.underlying24 hi hz0 hz1 hz2 rfl (by omega) (.slice (some ⟨w2.heap.size, 0, none⟩) 1 1) 1 (tokCells [(4, p)]) (by rfl) ?hown ⟨g, 0, none⟩ x c2 (tokCells (sxs x)) (by rfl) hsl ?hnews (tokCells_one _) (by unfold maxLen; omega) (by omega) ?hbase ?_
           case hown => exact own_litT (Blk.made _ _ _) (by have := hb2.size; simp at this; omega)
           case hnews => exact fun j u hu => by first | exact ho2.cells (g := g) rfl j u hu | exact (World.ownsRow.alloc ho2 _).cells (g := g) rfl j u hu
           case hbase => have := hb2.size; simp at this; first | omega | (simp; omega)
           intro v' w3 hown' hgrow hnil
           have hsz2 := hb2.size
           simp at hsz2
           have hge : w.heap.size + 2 ≤ w2.heap.size := by omega
           have HB3 : Hid (Below w.heap.size w w3) := by
             refine Lib.hid (Below.grown (B := w.heap.size) ((Below.trans (HBU.out.alloc (by simp; omega) _).drew (hb2.mono (by simp; omega))).alloc (by omega) _) hgrow (by first | omega | (simp; omega)) (fun j h => ?_))
             have h' : w2.heap.size = j := by simpa [Value.ownBlock] using h
             omega
           have hne : ∀ q, q < w.heap.size + 2 → some q ≠ (Value.slice (some ⟨w2.heap.size, 0, none⟩) 1 1).ownBlock := fun q hq h => by have h' : q = w2.heap.size := (by simpa [Value.ownBlock] using h); omega))
    all_goals
      obtain ⟨g', cap', rfl⟩ : ∃ g' cap', v' = .slice (some ⟨g', 0, none⟩) (1 + x) cap' := by
        rcases hown'.2 with ⟨_, h⟩ | ⟨g', cap', _, h, _⟩
        · omega
        · exact ⟨g', cap', h⟩
      have HW : Hid (OwnT w3 w.heap.size (some ⟨g', 0, none⟩) (x + 1) cap' (Nm.atToks (p, (x : Int)))) := by
        show OwnT _ _ _ _ _ _
        rw [HA.out, Nat.add_comm x 1]
        unfold OwnT
        rw [← HT.out]
        exact hown'
      clear hown' hgrow hnil hsz2 hge hne
      go_wp2
      go_ret
      exact ⟨g', cap', by rw [Nat.add_comm x 1]; rfl, HW.out, HB3.out⟩
end Go.Proofs.YtgbdojenenfgfaaDoor
