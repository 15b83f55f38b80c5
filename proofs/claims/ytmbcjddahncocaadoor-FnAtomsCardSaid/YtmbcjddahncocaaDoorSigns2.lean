/- ConsSigns of the program. -/
import Derived.WalkMore
import Derived.RangeFuncBox
import Derived.RangeFuncFrom
import Derived.Test.YtmbcjddahncocaaDoorDSig
import Derived.Test.YtmbcjddahncocaaDoorGoodCons
import Derived.Test.YtmbcjddahncocaaDoorRegInvIn
import Derived.Test.YtmbcjddahncocaaDoorSgHas

namespace Go.Proofs.YtmbcjddahncocaaDoor
open Go.RowKit Go.Shelf
open Cs (Cn Tb)
attribute [local go_sem] Oper.semAt_some

/-- the signs that are left of those that have come -/
def outS (l : List Cn) (pre : List (Fin 32)) : List Int := natI ((pre.map Fin.val).filter fun S => !gS l S)
theorem outS_hit {l : List Cn} (pre : List (Fin 32)) {x : Fin 32} (h : gS l x.val = false) : outS l (pre ++ [x]) = outS l pre ++ [((x.val : Nat) : Int)] := by simp [outS, natI, h]
theorem outS_miss {l : List Cn} (pre : List (Fin 32)) {x : Fin 32} (h : gS l x.val = true) : outS l (pre ++ [x]) = outS l pre := by simp [outS, natI, h]
theorem outS_len (l : List Cn) (pre : List (Fin 32)) : (outS l pre).length ≤ pre.length := by
  unfold outS
  rw [natI_len]
  have := List.length_filter_le (fun S => !gS l S) (pre.map Fin.val)
  rw [List.length_map] at this
  exact this
theorem outS_all {l : List Cn} {ys : List (Fin 32)} (h : ys.map Fin.val = List.range 32) : outS l ys = natI (Cs.foundI (gS l) 32) := by
  unfold outS Cs.foundI
  rw [h]
theorem keeps_below {W W' : World} (h : Below W.heap.size W W') : KeepsOthers W W' :=
  ⟨h.size, fun k _ hk _ => (h.block k (Array.getElem?_eq_some_iff.1 hk).1).trans hk⟩
theorem own_formS {w : World} {base k : Nat} {e : TypeId} {v : Value} {xs : List Value} (h : w.ownsRow base e 1 v k xs) : ∃ A co, v = .slice A k co := by
  rcases h.2 with ⟨h0, hk⟩ | ⟨g, cap, cur, hv, _⟩
  · exact ⟨none, 0, by rw [h0, hk]⟩
  · exact ⟨_, _, hv⟩
theorem gS_flat {l : List Cn} {S : Nat} {f : Bool} (h : Cs.flat (Cs.signed l fun p => Sg.has (S : Int) (p : Int)) = f) : gS l S = !f := by unfold gS; rw [h]

set_option maxRecDepth 100000 in
set_option maxHeartbeats 8000000 in
theorem implConsSigns_any (w : World) (B b off n c : Nat) (l : List Cn) (hB : B ≤ w.heap.size) (hl : ConR w B (some ⟨b, off, none⟩) n l) (hn : (n : Int) ≤ 140737488355328) :
    Calls Tryd.prog 36 #[.slice (some ⟨b, off, none⟩) n c] w fun e w' => ∃ Ao co, e = .returned (.slice Ao (signsR l).length co) ∧ OwnI w' w.heap.size Ao (signsR l).length co (signsR l) ∧ Below w.heap.size w w' := by
  obtain ⟨i0, hi, hz0, hz1, hz2⟩ := info_parts info_int
  obtain ⟨W0, hW0⟩ : ∃ W, w.alloc (.cells #[.slice (some ⟨b, off, none⟩) n c] 37) = W := ⟨_, rfl⟩
  have hB0 : Below w.heap.size w W0 := by rw [← hW0]; exact (Below.refl _ _).alloc (Nat.le_refl _) _
  have hs0 : W0.heap.size = w.heap.size + 1 := by rw [← hW0]; simp
  have hbx0 : Blk W0 w.heap.size 37 #[.slice (some ⟨b, off, none⟩) n c] := by rw [← hW0]; exact Blk.made _ _ _
  have k0 : W0.cell? ⟨w.heap.size, 0, none⟩ = some (.slice (some ⟨b, off, none⟩) n c) := hbx0.cell 0
  refine (callsIn_wide (n := 3)).1 ?_
  refine callsIn_of_wp_marks Tryd.func36 rfl trivial ?_ rfl
  simp only [Tryd.ntmps36, List.size_toArray, List.length_cons, List.length_nil, Nat.reduceAdd, Nat.reduceSub, Array.replicate_succ, Array.replicate_zero, List.push_toArray, List.append_toArray, List.nil_append, List.cons_append]
  gi_wp2_with fail
  refine ⟨trivial, ?_⟩
  refine (callsIn_wide.2 (implConsOk_any W0 B (some ⟨b, off, none⟩) n c l (by omega) (hl.below (hB0.mono hB)) hn)).mono ?_
  rintro e w1 ⟨rfl, hb1⟩
  have hs1 := hb1.size
  have hB1 := hB0.trans (hb1.mono (by omega))
  have hbx1 := hbx0.below hb1 (by omega)
  clear k0 hW0
  cases h1 : consOkR l with
  | false =>
    have hF : signsR l = [] := if_neg (by rw [h1]; decide)
    have HF := Lib.hid hF
    clear h1 hF
    gi_wp2
    refine ⟨_, results_tmp rfl _ _ _, ?_⟩
    rw [HF.out]
    exact ⟨none, 0, rfl, World.ownsRow_nil _ _ _ _, hB1⟩
  | true =>
    have hP := consOkR_ok h1
    have hn24 : n ≤ 24 := by have := hP.2; rw [hl.1] at this; exact this
    have HF : Hid (signsR l = natI (Cs.foundI (gS l) 32)) := if_pos h1
    clear h1
    gi_wp2
    obtain ⟨Wq, hWq⟩ : ∃ Wq, w1.alloc (.cells #[.slice none 0 0] 28) = Wq := ⟨_, rfl⟩
    have bO : Boxed Wq w1.heap.size 28 (.slice none 0 0) := by rw [← hWq]; exact Boxed.new w1 28 (.slice none 0 0)
    have hsq : Wq.heap.size = w1.heap.size + 1 := by rw [← hWq]; simp
    have hbq : Below w1.heap.size w1 Wq := by rw [← hWq]; exact (Below.refl _ _).alloc (Nat.le_refl _) _
    have hBq := hB1.trans (hbq.mono (by omega))
    have hbxq := hbx1.below hbq (by omega)
    rw [hWq]
    clear hWq
    refine wpIn_rangeFunc_ownF rfl (by omega) (gf := 89) (lb := #[]) rfl trivial (enters_of Tryd.func89 (by kernel_rfl) rfl)
      (signs_stops Fence.wide _ trivial rfl (by omega) _) (fun _ _ => trivial) (fun _ _ _ _ _ _ _ _ => trivial) (Below.refl _ _) (fun _ => rfl)
      (fun pre W => (∃ v, Boxed W w1.heap.size 28 v ∧ W.ownsRow w.heap.size 3 1 v (outS l pre).length ((outS l pre).map (Value.int .i64)) ∧ True) ∧ (Blk W w.heap.size 37 #[.slice (some ⟨b, off, none⟩) n c] ∧ Below w.heap.size w W))
      (fun _ _ _ => False)
      (OwnFrom.and (Own.from (holdsRow_own w.heap.size w1.heap.size 28 3 1 (fun pre => (outS l pre).length) (fun pre => (outS l pre).map (Value.int .i64)) (fun _ _ => True)) _) (OwnFrom.and (Own.from (fun s A B row hs hg hr => Blk.grown hs hg (fun e => by obtain ⟨o, ho, hc⟩ := hr _ e.symm; rw [show A.heap[w.heap.size]? = _ from hs] at ho; cases ho; cases hc)) _) (ownFrom_below (Nat.le_refl _) (by omega))))
      (fun _ _ _ _ _ hs _ _ => hs)
      ⟨⟨_, bO, World.ownsRow_nil _ _ _ _, trivial⟩, hbxq, hBq⟩
      (fun x => { tmps := #[.slice (some ⟨b, off, none⟩) n c, .pointer (some ⟨w.heap.size, 0, none⟩), .slice none 0 0, .pointer (some ⟨w1.heap.size, 0, none⟩), .int .i64 ((x.val : Nat) : Int), .slice (some ⟨b, off, none⟩) n c, .bool true, .bool false, .int .i64 ((x.val : Nat) : Int), undef, undef, undef, undef, undef, undef, undef, undef, undef], defers := [] }) ?assign ?body ?done ?stop
    case assign =>
      intro l x W K hK
      gi_wp2
      exact hK
    case body =>
      rintro lp pre x W ⟨⟨v, hv, hrow, _⟩, hbx, hBW⟩ hpl0
      obtain ⟨S, hS⟩ := x
      have hol := outS_len l pre
      have hpl : pre.length < 32 := hpl0
      obtain ⟨A, co, rfl⟩ := own_formS hrow
      have hc := hv.cell
      have k1 : W.cell? ⟨w.heap.size, 0, none⟩ = some (.slice (some ⟨b, off, none⟩) n c) := hbx.cell 0
      have hszW := hBW.size
      have hvlt : w1.heap.size < W.heap.size := World.block_lt_of_cell? W _ hc
      dsimp only
      gi_wp2_with fail
      refine ⟨trivial, ?_⟩
      refine (CallsIn.inRound lp (callsIn_wide.2 (signedList_any W B b off n c l S (by omega) (hl.below (hBW.mono hB)) (by omega)))).mono ?_
      rintro e W1 ⟨g5, c5, rfl, ho5, hb5⟩
      have hs5 := hb5.size
      have hr5 := OwnC.reads ho5
      clear ho5
      gi_wp2_with fail
      refine ⟨trivial, ?_⟩
      refine (CallsIn.inRound lp (callsIn_wide.2 (satisfiable_any W1 W1.heap.size (some ⟨g5, 0, none⟩) (n + 5) c5 _ (Nat.le_refl _) hr5 (Cs.signed_ok hP.1 _) (by omega)))).mono ?_
      rintro e W2 ⟨rfl, hb6⟩
      have hbZ : Below W.heap.size W W2 := hb5.trans (hb6.mono hs5)
      have hv2 : Boxed W2 w1.heap.size 28 (.slice A (outS l pre).length co) := (hbZ.block _ hvlt).trans hv
      have hrow2 := own_below' hrow hbZ
      have hbx2 := hbx.below hbZ (by omega)
      have hB2 := hBW.trans (hbZ.mono hszW)
      have hc2 := hv2.cell
      have hK2 := keeps_below hbZ
      clear hb5 hb6 hr5 hbZ hc k1
      cases hf : Cs.flat (Cs.signed l fun p => Sg.has (S : Int) (p : Int)) with
      | false =>
        have hg : gS l S = true := gS_flat hf
        clear hf
        gi_wp2
        exact ⟨hK2, trivial, ⟨_, hv2, by rw [outS_miss pre (x := ⟨S, hS⟩) hg]; exact hrow2, trivial⟩, hbx2, hB2⟩
      | true =>
        have hg : gS l S = false := gS_flat hf
        clear hf
        gi_wp2_with (gi_at_builtin; refine wpListIn_append_own _ rfl (.tmp 13) (.tmp 15) 28 rfl w.heap.size 3 i0 (.int .i64 0) 1 8 Tryd.underlying28 hi hz0 hz1 hz2 rfl (by decide) _ _ _ rfl (hrow2.alloc _) ⟨W2.heap.size, 0, none⟩ 1 1 [.int .i64 (S : Int)] rfl rfl (cell_one_new _ _ _) (by simp [Value.oneCell']) (by unfold maxLen; omega) (by omega) (by have := hB2.size; simp; omega) ?_; intro v' w3 hown' hgrow _; obtain ⟨g', cap', rfl⟩ := ownsRow_succ hown'; obtain ⟨hv3, hv4, hr4, hk4, hb4⟩ := hv2.appended (by decide) hrow2 hB2.size (by omega) hown' hgrow; have hc3 := hv3.cell; have hf3 := hv3.frozen)
        refine ⟨hK2.trans hk4, trivial, ⟨_, hv4, ?_, trivial⟩, ?_, hB2.trans hb4⟩
        · rw [outS_hit pre (x := ⟨S, hS⟩) hg, List.length_append, List.map_append]
          exact hr4
        · have hA := hbx2.alloc (.cells #[.int .i64 (S : Int)] 3)
          have h3 : Blk w3 w.heap.size 37 #[.slice (some ⟨b, off, none⟩) n c] := (hgrow.block w.heap.size hA.lt (fun he => own_apart (hrow2.alloc _) hA (by decide) he.symm)).trans hA
          exact h3.other (p := ⟨w1.heap.size, 0, none⟩) (by show w.heap.size ≠ w1.heap.size; omega) _
    case done =>
      rintro D ys W hD hS ⟨⟨v, hv, hrow, _⟩, hbx, hBW⟩ hK
      have hc := hv.cell
      gi_wp2
      refine ⟨by simp, .inl ⟨_, _, rfl, run_takeDeferred hK, ?_⟩⟩
      rw [outS_all hS] at hrow
      obtain ⟨A, co, rfl⟩ := own_formS hrow
      refine ⟨_, results_tmp rfl _ _ _, ?_⟩
      rw [HF.out]
      exact ⟨A, co, rfl, ownsRow_putObj hrow _ hK rfl, hBW.trans (belowK_b (w := w) (Nat.le_refl _) W D _ _ (by omega) hK rfl rfl)⟩
    case stop =>
      rintro D k pre W _ _ h _
      exact h.elim
end Go.Proofs.YtmbcjddahncocaaDoor
