/- compareUnder of the program: the first sign and atom that do not fit, as an error. -/
import Derived.Test.YtgebjnoicgmdoaaGreatDoorRegInvIn
import Derived.Test.YtgebjnoicgmdoaaGreatDoorDMis
import Derived.Test.YtgebjnoicgmdoaaGreatDoorUnAtom3

namespace Go.Proofs.YtgebjnoicgmdoaaGreatDoor
open Go.RowKit Go.Shelf
open Cs (Cn Tb)
attribute [local go_sem] Oper.semAt_some

/-- the variable errCons holds that interface value -/
def ErrCAt (w : World) (T : TypeId) (pv : Value) : Prop := w.cell? ⟨0, 0, none⟩ = some (.iface T pv)
theorem ErrCAt.below {w w' : World} {B : Nat} {T : TypeId} {pv : Value} (h : ErrCAt w T pv) (hb : Below B w w') (hB : 0 < B) : ErrCAt w' T pv := (hb.cell (p := ⟨0, 0, none⟩) hB).trans h

/-- what compareUnder gives back -/
noncomputable def excO (l : List Cn) : Option (Nat × Nm.At) → Value
  | none => .nilIface
  | some r => excI (Cs.tab (Un.sgL l (r.1 : Int))) (some r.2)
noncomputable def cmpV (l : List Cn) (a b : List (Int × Int)) (Tc : TypeId) (pc : Value) (T : TypeId) (pv : Value) : Value := if consOkR l = true then (if Lv.levelOk a = true ∧ Lv.levelOk b = true then excO l (Un.exR l a b) else .iface T pv) else .iface Tc pc
theorem cmpV_c {l : List Cn} {a b : List (Int × Int)} {Tc : TypeId} {pc : Value} {T : TypeId} {pv : Value} (h : consOkR l = false) : cmpV l a b Tc pc T pv = .iface Tc pc := if_neg (by rw [h]; decide)
theorem cmpV_a {l : List Cn} {a b : List (Int × Int)} {Tc : TypeId} {pc : Value} {T : TypeId} {pv : Value} (h : consOkR l = true) (h1 : ¬ (Lv.levelOk a = true ∧ Lv.levelOk b = true)) : cmpV l a b Tc pc T pv = .iface T pv := by
  unfold cmpV
  rw [if_pos h, if_neg h1]
theorem cmpV_y {l : List Cn} {a b : List (Int × Int)} {Tc : TypeId} {pc : Value} {T : TypeId} {pv : Value} (h : consOkR l = true) (h1 : Lv.levelOk a = true ∧ Lv.levelOk b = true) : cmpV l a b Tc pc T pv = excO l (Un.exR l a b) := by
  unfold cmpV
  rw [if_pos h, if_pos h1]

/-- the four boxes of compareUnder -/
structure UBox (W : World) (g : Nat) (v1 v2 v3 v4 : Value) : Prop where
  b0 : Blk W g 24 #[v1]
  b1 : Blk W (g + 1) 25 #[v2]
  b2 : Blk W (g + 1 + 1) 25 #[v3]
  b3 : Blk W (g + 1 + 1 + 1) 81 #[v4]
section
variable {W W' : World} {g B : Nat} {v1 v2 v3 v4 : Value}
theorem UBox.below (h : UBox W g v1 v2 v3 v4) (hb : Below B W W') (hg : g + 3 < B) : UBox W' g v1 v2 v3 v4 :=
  ⟨h.b0.below hb (by omega), h.b1.below hb (by omega), h.b2.below hb (by omega), h.b3.below hb (by omega)⟩
theorem UBox.own {row : Option Nat} (h : UBox W g v1 v2 v3 v4) (hg : W.grownBy W' row) (hr : ∀ r, row = some r → ∃ o : Obj, W.heap[r]? = some o ∧ o.isCells = false) : UBox W' g v1 v2 v3 v4 :=
  ⟨blk_own h.b0 hg hr, blk_own h.b1 hg hr, blk_own h.b2 hg hr, blk_own h.b3 hg hr⟩
theorem UBox.set (h : UBox W g v1 v2 v3 v4) (v : Value) : UBox (W.setCell ⟨g + 1 + 1 + 1, 0, none⟩ v) g v1 v2 v3 v := by
  refine ⟨h.b0.other (by simp; omega) _, h.b1.other (by simp) _, h.b2.other (by simp) _, ?_⟩
  have := h.b3.put 0 v
  simpa using this
theorem UBox.lt (h : UBox W g v1 v2 v3 v4) : g + 3 < W.heap.size := h.b3.lt
end
theorem ubox_made (w : World) (v1 v2 v3 v4 : Value) : UBox ((((w.alloc (.cells #[v1] 24)).alloc (.cells #[v2] 25)).alloc (.cells #[v3] 25)).alloc (.cells #[v4] 81)) w.heap.size v1 v2 v3 v4 := by
  refine ⟨(((Blk.made w _ _).alloc _).alloc _).alloc _, ?_, ?_, ?_⟩
  · exact ((Blk.made' (by simp)).alloc _).alloc _
  · exact (Blk.made' (by simp)).alloc _
  · exact Blk.made' (by simp)
/-- a table's entries, where the sign can be had -/
theorem sgnT_bd {l : List Cn} {s : Int} (h : sgnB l s = true) : ∀ i j, -1 ≤ sgnT l s i j ∧ sgnT l s i j ≤ 1000 := by
  rw [sgnT_yes h]
  exact fun i j => ⟨(Cs.tab_bd (sgnB_flat h) i j).1, Int.le_trans (Cs.tab_bd (sgnB_flat h) i j).2 (by decide)⟩
theorem sgnB_flat_no {l : List Cn} {S : Nat} (hc : consOkR l = true) (hS : S < 32) (h : sgnB l (S : Int) = false) : Cs.flat (Un.sgL l (S : Int)) = false := by
  rwa [sgnB_ok hc (Dc.isSign_nat hS)] at h
/-- what lies in the slots of the round's long region -/
def CuC (tv : Value) (A1 : Option Addr) (n1 c1 : Nat) (A2 : Option Addr) (n2 c2 : Nat) (S : Nat) (ra rb : List (Int × Int)) (L1 L2 : Nat) (ev : Value) (i : Nat) (v : Value) (w : World) : Prop :=
  match i with
  | 0 => v = tv
  | 1 => v = .slice A1 n1 c1
  | 2 => v = .int .i64 (S : Int)
  | 3 => ∃ A c B, v = .slice A L1 c ∧ B ≤ w.heap.size ∧ TokR w B A L1 ra
  | 4 => v = .slice A2 n2 c2
  | 5 => v = .int .i64 (S : Int)
  | 6 => ∃ A c B, v = .slice A L2 c ∧ B ≤ w.heap.size ∧ TokR w B A L2 rb
  | _ => v = ev
theorem CuC.keep {tv : Value} {A1 : Option Addr} {n1 c1 : Nat} {A2 : Option Addr} {n2 c2 S : Nat} {ra rb : List (Int × Int)} {L1 L2 : Nat} {ev : Value} {i : Nat} {v : Value} {w w' : World} (hb : Below w.heap.size w w') (h : CuC tv A1 n1 c1 A2 n2 c2 S ra rb L1 L2 ev i v w) : CuC tv A1 n1 c1 A2 n2 c2 S ra rb L1 L2 ev i v w' := by
  unfold CuC at h ⊢
  split at h
  all_goals first
    | exact h
    | (obtain ⟨A, c, B, h1, h2, h3⟩ := h; exact ⟨A, c, B, h1, Nat.le_trans h2 hb.size, h3.below (hb.mono h2)⟩)

set_option maxRecDepth 100000 in
set_option maxHeartbeats 8000000 in
theorem compareUnder_any (w : World) (B : Nat) (A : Option Addr) (n c : Nat) (l : List Cn) (A1 : Option Addr) (n1 c1 : Nat) (a : List (Int × Int)) (A2 : Option Addr) (n2 c2 : Nat) (m : List (Int × Int)) (T : TypeId) (pv : Value) (Tc : TypeId) (pc : Value) (h0 : 1 < B) (h0c : 0 < B) (hB : B ≤ w.heap.size)
    (hA : SlOk A n c) (hl : ConR w B A n l) (hn : (n : Int) ≤ 140737488355328) (ha : TokR w B A1 n1 a) (hn1 : (n1 : Int) ≤ 140737488355328) (hm : TokR w B A2 n2 m) (hn2 : (n2 : Int) ≤ 140737488355328) (hE : ErrAt w T pv) (hEc : ErrCAt w Tc pc) :
    Calls Tryz.prog 51 #[.slice A n c, .slice A1 n1 c1, .slice A2 n2 c2] w fun e w' => e = .returned (cmpV l a m Tc pc T pv) ∧ Below w.heap.size w w' := by
  have hz := zeros_tab
  obtain ⟨W0, hW0⟩ : ∃ W, (((w.alloc (.cells #[.slice A n c] 24)).alloc (.cells #[.slice A1 n1 c1] 25)).alloc (.cells #[.slice A2 n2 c2] 25)).alloc (.cells #[.nilIface] 81) = W := ⟨_, rfl⟩
  have hbx0 : UBox W0 w.heap.size (.slice A n c) (.slice A1 n1 c1) (.slice A2 n2 c2) .nilIface := by rw [← hW0]; exact ubox_made w _ _ _ _
  have hB0 : Below w.heap.size w W0 := by rw [← hW0]; exact ((((Below.refl _ w).alloc (Nat.le_refl _) _).alloc (by simp) _).alloc (by simp; omega) _).alloc (by simp; omega) _
  have hs0 := hbx0.lt
  have k0 : W0.cell? ⟨w.heap.size, 0, none⟩ = some (.slice A n c) := hbx0.b0.cell 0
  refine (callsIn_wide (n := 3)).1 ?_
  refine callsIn_of_wp_marks Tryz.func51 rfl trivial ?_ rfl
  simp only [Tryz.ntmps51, List.size_toArray, List.length_cons, List.length_nil, Nat.reduceAdd, Nat.reduceSub, Array.replicate_succ, Array.replicate_zero, List.push_toArray, List.append_toArray, List.nil_append, List.cons_append]
  gi_wp2_with fail
  refine ⟨trivial, ?_⟩
  refine (callsIn_wide.2 (implConsOk_any W0 B A n c l (by omega) (hl.below (hB0.mono hB)) hn)).mono ?_
  rintro e w1 ⟨rfl, hb1⟩
  have hs1 := hb1.size
  have hB1 := hB0.trans (hb1.mono (by omega))
  have hbx1 := hbx0.below hb1 (by omega)
  clear k0 hW0
  cases h1 : consOkR l with
  | false =>
    have HF := Lib.hid (cmpV_c (a := a) (b := m) (Tc := Tc) (pc := pc) (T := T) (pv := pv) h1)
    have kc : w1.cell? ⟨0, 0, none⟩ = some (.iface Tc pc) := hEc.below (hB1.mono hB) h0c
    have k3 : w1.cell? ⟨w.heap.size + 1 + 1 + 1, 0, none⟩ = some .nilIface := hbx1.b3.cell 0
    have t3 := hbx1.b3.thawed 0
    clear h1
    gi_wp2
    have z3 := (hbx1.set (.iface Tc pc)).b3.cell 0
    refine ⟨(.iface Tc pc), ?_, ?_⟩
    · simp at z3
      simp [results, Tryz.f51, go_sem, z3]
    · rw [HF.out]
      exact ⟨rfl, hB1.setCell (p := ⟨w.heap.size + 1 + 1 + 1, 0, none⟩) (by simp; omega) _⟩
  | true =>
    have k1 : w1.cell? ⟨w.heap.size + 1, 0, none⟩ = some (.slice A1 n1 c1) := hbx1.b1.cell 0
    gi_wp2_with fail
    refine ⟨trivial, ?_⟩
    refine (callsIn_wide.2 (levelOk_any w1 B A1 n1 c1 a T pv h0 (by omega) (ha.below (hB1.mono hB)) hn1 (hE.below (hB1.mono hB) h0))).mono ?_
    rintro e w2 ⟨rfl, hb2⟩
    have hs2 := hb2.size
    have hB2 := hB1.trans (hb2.mono (by omega))
    have hbx2 := hbx1.below hb2 (by omega)
    clear k1
    cases h2 : Lv.levelOk a with
    | false =>
      have HF := Lib.hid (cmpV_a (a := a) (b := m) (Tc := Tc) (pc := pc) (T := T) (pv := pv) h1 (fun h => by rw [h2] at h; cases h.1))
      have kc : w2.cell? ⟨1, 0, none⟩ = some (.iface T pv) := hE.below (hB2.mono hB) h0
      have k3 : w2.cell? ⟨w.heap.size + 1 + 1 + 1, 0, none⟩ = some .nilIface := hbx2.b3.cell 0
      have t3 := hbx2.b3.thawed 0
      clear h1 h2
      gi_wp2
      refine ⟨trivial, ?_⟩
      rename_i hK
      refine hK _ _ ?_
      gi_wp2
      have z3 := (hbx2.set (.iface T pv)).b3.cell 0
      refine ⟨(.iface T pv), ?_, ?_⟩
      · simp at z3
        simp [results, Tryz.f51, go_sem, z3]
      · rw [HF.out]
        exact ⟨rfl, hB2.setCell (p := ⟨w.heap.size + 1 + 1 + 1, 0, none⟩) (by simp; omega) _⟩
    | true =>
      have k2 : w2.cell? ⟨w.heap.size + 1 + 1, 0, none⟩ = some (.slice A2 n2 c2) := hbx2.b2.cell 0
      gi_wp2_with fail
      refine ⟨trivial, ?_⟩
      refine (callsIn_wide.2 (levelOk_any w2 B A2 n2 c2 m T pv h0 (by omega) (hm.below (hB2.mono hB)) hn2 (hE.below (hB2.mono hB) h0))).mono ?_
      rintro e w3 ⟨rfl, hb3⟩
      have hs3 := hb3.size
      have hB3 := hB2.trans (hb3.mono (by omega))
      have hbx3 := hbx2.below hb3 (by omega)
      clear k2
      cases h3 : Lv.levelOk m with
      | false =>
        have HF := Lib.hid (cmpV_a (a := a) (b := m) (Tc := Tc) (pc := pc) (T := T) (pv := pv) h1 (fun h => by rw [h3] at h; cases h.2))
        have kc : w3.cell? ⟨1, 0, none⟩ = some (.iface T pv) := hE.below (hB3.mono hB) h0
        have k3 : w3.cell? ⟨w.heap.size + 1 + 1 + 1, 0, none⟩ = some .nilIface := hbx3.b3.cell 0
        have t3 := hbx3.b3.thawed 0
        clear h1 h2 h3
        gi_wp2
        have z3 := (hbx3.set (.iface T pv)).b3.cell 0
        refine ⟨(.iface T pv), ?_, ?_⟩
        · simp at z3
          simp [results, Tryz.f51, go_sem, z3]
        · rw [HF.out]
          exact ⟨rfl, hB3.setCell (p := ⟨w.heap.size + 1 + 1 + 1, 0, none⟩) (by simp; omega) _⟩
      | true =>
        have HF := Lib.hid (cmpV_y (a := a) (b := m) (Tc := Tc) (pc := pc) (T := T) (pv := pv) h1 ⟨h2, h3⟩)
        gi_wp2
        refine wpIn_rangeFunc_ownF rfl (by omega) (gf := 91) (lb := #[]) rfl trivial (enters_of Tryz.func91 (by kernel_rfl) rfl)
          (signs_stops Fence.wide _ trivial rfl (by omega) _) (fun _ _ => trivial) (fun _ _ _ _ _ _ _ _ => trivial) (Below.refl _ _) (fun _ => rfl)
          (fun pre W => (UBox W w.heap.size (.slice A n c) (.slice A1 n1 c1) (.slice A2 n2 c2) .nilIface ∧ ∀ x ∈ pre, Un.ex1 l a m x.val = none) ∧ Below w.heap.size w W)
          (fun cd pre W => (cd = .ret ∧ ∃ pre' x p, pre = pre' ++ [x] ∧ (∀ y ∈ pre', Un.ex1 l a m y.val = none) ∧ Un.ex1 l a m x.val = some p ∧ UBox W w.heap.size (.slice A n c) (.slice A1 n1 c1) (.slice A2 n2 c2) (excO l (some (x.val, p)))) ∧ Below w.heap.size w W)
          (OwnFrom.and (Own.from (fun s A' B' row hs hg hr => ⟨hs.1.own hg hr, hs.2⟩) _) (ownFrom_below (Nat.le_refl _) (by omega)))
          (fun cd => OwnFrom.and (Own.from (fun s A' B' row hs hg hr => ⟨hs.1, by obtain ⟨pre', x, p, h1, h2, h3, h4⟩ := hs.2; exact ⟨pre', x, p, h1, h2, h3, h4.own hg hr⟩⟩) _) (ownFrom_below (Nat.le_refl _) (by omega)))
          ⟨⟨hbx3, fun x hx => by cases hx⟩, hB3⟩
          (fun x => { tmps := #[.slice A n c, .slice A1 n1 c1, .slice A2 n2 c2, .pointer (some ⟨w.heap.size, 0, none⟩), .pointer (some ⟨w.heap.size + 1, 0, none⟩), .pointer (some ⟨w.heap.size + 1 + 1, 0, none⟩), .pointer (some ⟨w.heap.size + 1 + 1 + 1, 0, none⟩), .int .i64 ((x.val : Nat) : Int), undef, undef, undef, .slice A n c, .bool true, .bool false, undef, .slice A1 n1 c1, .bool true, .bool false, .bool false, .slice A2 n2 c2, .bool true, .bool false, .bool false, undef, .int .i64 ((x.val : Nat) : Int), undef, undef, undef, undef, undef, undef, undef, undef, undef, undef, undef, undef, undef, undef, undef, undef, undef, undef, undef], defers := [] }) ?assign ?body ?done ?stop
        case assign =>
          intro lp x W K hK
          gi_wp2
          exact hK
        case body =>
          rintro lp pre x W ⟨⟨hbox, hpre⟩, hbel⟩ _
          obtain ⟨S, hS⟩ := x
          have hsz := hbel.size
          have hgl := hbox.lt
          have k0 : W.cell? ⟨w.heap.size, 0, none⟩ = some (.slice A n c) := hbox.b0.cell 0
          dsimp only
          gi_wp2_with fail
          refine ⟨trivial, ?_⟩
          refine (CallsIn.inRound lp (callsIn_wide.2 (signedPaths_all W B A n c l S hA (by omega) (hl.below (hbel.mono hB)) hn))).mono ?_
          rintro e W1 ⟨rfl, hb1'⟩
          have hs1' := hb1'.size
          obtain ⟨Wa, hWa⟩ : ∃ X, W1.alloc (.cells (tabA zeroT) 85) = X := ⟨_, rfl⟩
          have ka : Blk Wa W1.heap.size 85 (tabA zeroT) := by rw [← hWa]; exact Blk.made _ _ _
          obtain ⟨tb, htb⟩ : ∃ tb, sgnT l (S : Int) = tb := ⟨_, rfl⟩
          obtain ⟨Wb, hWb⟩ : ∃ X, Wa.setRow W1.heap.size (tabA tb) = X := ⟨_, rfl⟩
          have kb : Blk Wb W1.heap.size 85 (tabA tb) := by rw [← hWb]; exact BlkT.lay ka tb
          have hbb : Below W.heap.size W Wb := by
            have q1 : Below W.heap.size W Wa := by rw [← hWa]; exact hb1'.alloc hs1' _
            rw [← hWb]
            exact (Wrote.row _ _ _).below q1 q1.size hs1'
          have hbx := hbox.below hbb (by omega)
          rw [htb]
          clear k0
          cases h1s : sgnB l (S : Int) with
          | false =>
            have hno : Un.ex1 l a m S = none := Un.ex1_no (sgnB_flat_no h1 hS h1s)
            gi_wp2_with (refine wpListIn_store_row rfl 85 _ _ rfl W1.heap.size (tabA tb) rfl rfl 85 (tabA zeroT) ka (size_tab tb) rfl (tabA_one tb) ?_)
            refine ⟨below_keeps hbb, trivial, ⟨hbx, fun y hy => ?_⟩, hbel.trans (hbb.mono hsz)⟩
            rcases List.mem_append.1 hy with h | h
            · exact hpre y h
            · rw [List.mem_singleton.1 h]
              exact hno
          | true =>
            have hsg := Dc.isSign_nat hS
            have hra := Dc.rs_rok h2 hsg
            have hrm := Dc.rs_rok h3 hsg
            have hbd := sgnT_bd h1s
            rw [htb] at hbd
            have hex : Un.ex1 l a m S = Un.exL tb (Dc.rs m (S : Int)) (Dc.rs a (S : Int)) := by
              rw [Un.ex1_yes (sgnB_flat h1s), ← htb, sgnT_yes h1s]
            have HTT : Hid (tb = Cs.tab (Un.sgL l (S : Int))) := by show _ = _; rw [← htb, sgnT_yes h1s]
            have HEX := Lib.hid hex
            clear hex htb
            have hlb := hl.below ((hbel.trans (hbb.mono hsz)).mono hB)
            have hab := ha.below ((hbel.trans (hbb.mono hsz)).mono hB)
            have hmb := hm.below ((hbel.trans (hbb.mono hsz)).mono hB)
            have hEb := hE.below ((hbel.trans (hbb.mono hsz)).mono hB) h0
            have hszb := hbb.size
            gi_wp2_with (refine wpListIn_store_row rfl 85 _ _ rfl W1.heap.size (tabA tb) rfl rfl 85 (tabA zeroT) ka (size_tab tb) rfl (tabA_one tb) ?_)
            rw [act_tmI _ 44 rfl]
            refine region_slots_in 44 _ (fun _ _ _ w' => Below Wb.heap.size Wb w') (CuC (tabV tb) A1 n1 c1 A2 n2 c2 S (Dc.rs a (S : Int)) (Dc.rs m (S : Int)) (Dc.rs a (S : Int)).length (Dc.rs m (S : Int)).length (excI tb (Un.exL tb (Dc.rs m (S : Int)) (Dc.rs a (S : Int))))) (fun u u' => Below u.heap.size u u') (by kernel_rfl) (by kernel_rfl) (Below.refl _ _).drew (fun _ _ _ _ hr hx => hx.keep hr) (AllFrom.all (AllFrom.cons ?o0 (AllFrom.cons ?o1 (AllFrom.cons ?o2 (AllFrom.cons ?o3 (AllFrom.cons ?o4 (AllFrom.cons ?o5 (AllFrom.cons ?o6 (AllFrom.cons ?o7 (AllFrom.cons ?o8 AllFrom.nil)))))))))) ?fin
            case o0 =>
              intro k d f w' hk hun hcl hwt hG hf hC
              have e8 : (tm 44 f).eval (.tmp 8) = .pointer (some ⟨W1.heap.size, 0, none⟩) := (tm_eval (by omega) f).trans (hf 8 (frame_of (by kernel_rfl)))
              have hk2 : Blk w' W1.heap.size 85 (tabA tb) := Blk.below kb hG kb.lt
              refine op_wi rfl rfl (by intro c e; cases e) fun K' hK' => ?_
              refine wp_load_row 85 _ rfl W1.heap.size e8 85 (tabA tb) (0, 0) _ hk2 Tryz.underlying85 rfl (size_tab tb) ?_
              exact hK' _ _ ⟨_, rfl, Below.refl _ _, hG, rfl⟩
            case o1 =>
              intro k d f w' hk hun hcl hwt hG hf hC
              have e4 : (tm 44 f).tmps[4]?.getD undef = .pointer (some ⟨w.heap.size + 1, 0, none⟩) := (tm_getI (by omega) f).trans (hf 4 (frame_of (by kernel_rfl)))
              have k1 : w'.cell? ⟨w.heap.size + 1, 0, none⟩ = some (.slice A1 n1 c1) := (hbx.below hG (by omega)).b1.cell 0
              refine op_wi rfl rfl (by intro c e; cases e) fun K' hK' => ?_
              go_simp
              exact hK' _ _ ⟨_, rfl, Below.refl _ _, hG, rfl⟩
            case o4 =>
              intro k d f w' hk hun hcl hwt hG hf hC
              have e4 : (tm 44 f).tmps[5]?.getD undef = .pointer (some ⟨w.heap.size + 1 + 1, 0, none⟩) := (tm_getI (by omega) f).trans (hf 5 (frame_of (by kernel_rfl)))
              have k1 : w'.cell? ⟨w.heap.size + 1 + 1, 0, none⟩ = some (.slice A2 n2 c2) := (hbx.below hG (by omega)).b2.cell 0
              refine op_wi rfl rfl (by intro c e; cases e) fun K' hK' => ?_
              go_simp
              exact hK' _ _ ⟨_, rfl, Below.refl _ _, hG, rfl⟩
            case o2 =>
              intro k d f w' hk hun hcl hwt hG hf hC
              have e7 : (tm 44 f).tmps[7]?.getD undef = .int .i64 (S : Int) := (tm_getI (by omega) f).trans (hf 7 (frame_of (by kernel_rfl)))
              refine op_wi rfl rfl (by intro c e; cases e) fun K' hK' => ?_
              go_simp
              exact hK' _ _ ⟨_, rfl, Below.refl _ _, hG, rfl⟩
            case o5 =>
              intro k d f w' hk hun hcl hwt hG hf hC
              have e7 : (tm 44 f).tmps[7]?.getD undef = .int .i64 (S : Int) := (tm_getI (by omega) f).trans (hf 7 (frame_of (by kernel_rfl)))
              refine op_wi rfl rfl (by intro c e; cases e) fun K' hK' => ?_
              go_simp
              exact hK' _ _ ⟨_, rfl, Below.refl _ _, hG, rfl⟩
            case o3 =>
              intro k d f w' hk hun hcl hwt hG hf hC
              have e1 : (tm 44 f).tmps[34]?.getD undef = .slice A1 n1 c1 := (tm_getI (by omega) f).trans (hC 1 (by kernel_rfl))
              have e2 : (tm 44 f).tmps[35]?.getD undef = .int .i64 (S : Int) := (tm_getI (by omega) f).trans (hC 2 (by kernel_rfl))
              refine op_wi rfl rfl (by intro c e; cases e) fun K' hK' => ?_
              go_simp
              refine (residualOf_any w' B A1 n1 c1 a S T pv h0 (by have := hG.size; omega) (hab.below (hG.mono (by omega))) h2 hsg (hEb.below (hG.mono (by omega)) h0)).mono ?_
              rintro e w4 ⟨A3, c3, rfl, ho, hb4⟩
              exact hK' _ _ ⟨_, rfl, hb4, hG.trans (hb4.mono hG.size), A3, c3, w4.heap.size, rfl, Nat.le_refl _, at_reads ho⟩
            case o6 =>
              intro k d f w' hk hun hcl hwt hG hf hC
              have e1 : (tm 44 f).tmps[37]?.getD undef = .slice A2 n2 c2 := (tm_getI (by omega) f).trans (hC 4 (by kernel_rfl))
              have e2 : (tm 44 f).tmps[38]?.getD undef = .int .i64 (S : Int) := (tm_getI (by omega) f).trans (hC 5 (by kernel_rfl))
              refine op_wi rfl rfl (by intro c e; cases e) fun K' hK' => ?_
              go_simp
              refine (residualOf_any w' B A2 n2 c2 m S T pv h0 (by have := hG.size; omega) (hmb.below (hG.mono (by omega))) h3 hsg (hEb.below (hG.mono (by omega)) h0)).mono ?_
              rintro e w4 ⟨A3, c3, rfl, ho, hb4⟩
              exact hK' _ _ ⟨_, rfl, hb4, hG.trans (hb4.mono hG.size), A3, c3, w4.heap.size, rfl, Nat.le_refl _, at_reads ho⟩
            case o7 =>
              intro k d f w' hk hun hcl hwt hG hf hC
              obtain ⟨A3, c3, B3, hv3, hB3', hr3⟩ := hC 3 (by kernel_rfl)
              obtain ⟨A4, c4, B4, hv4, hB4', hr4⟩ := hC 6 (by kernel_rfl)
              have e0 : (tm 44 f).tmps[33]?.getD undef = tabV tb := (tm_getI (by omega) f).trans (hC 0 (by kernel_rfl))
              have e1 : (tm 44 f).tmps[36]?.getD undef = .slice A3 (Dc.rs a (S : Int)).length c3 := (tm_getI (by omega) f).trans hv3
              have e2 : (tm 44 f).tmps[39]?.getD undef = .slice A4 (Dc.rs m (S : Int)).length c4 := (tm_getI (by omega) f).trans hv4
              have q1 : (Dc.rs a (S : Int)).length ≤ 6 := Nm.rnorm_len _
              have q2 : (Dc.rs m (S : Int)).length ≤ 6 := Nm.rnorm_len _
              refine op_wi rfl rfl (by intro c e; cases e) fun K' hK' => ?_
              go_simp
              refine (compare_any w' w'.heap.size tb A3 _ c3 (Dc.rs a (S : Int)) A4 _ c4 (Dc.rs m (S : Int)) (Nat.le_refl _) (hr3.more hB3') (by omega) hra.2.2.1 (hr4.more hB4') (by omega) hrm.2.2.1 hbd).mono ?_
              rintro e w4 ⟨rfl, hb4⟩
              exact hK' _ _ ⟨_, rfl, hb4, hG.trans (hb4.mono hG.size), rfl⟩
            case o8 =>
              intro k d f w' hk hun hcl hwt hG hf hC
              have e0 : (tm 44 f).tmps[40]?.getD undef = excI tb (Un.exL tb (Dc.rs m (S : Int)) (Dc.rs a (S : Int))) := (tm_getI (by omega) f).trans (hC 7 (by kernel_rfl))
              refine op_wi rfl rfl (by intro c e; cases e) fun K' hK' => ?_
              go_simp
              exact hK' _ _ ⟨_, rfl, Below.refl _ _, hG, rfl⟩
            case fin =>
              intro k d f w' hk hall hG hf hC
              have e10 : f 10 = excI tb (Un.exL tb (Dc.rs m (S : Int)) (Dc.rs a (S : Int))) := hC 8 (by decide)
              have hfr : ∀ t, t ∉ [33, 34, 35, 36, 37, 38, 39, 40, 10] → f t = _ := fun t ht => hf t (covers_not (by kernel_rfl) ht)
              have hbz := hbb.trans (hG.mono hszb)
              have hbxz := hbx.below hG (by omega)
              rw [tm_frame 44 f _ _ hfr, ← act_tmI _ 44 rfl]
              simp only [List.foldl_cons, List.foldl_nil, Act.put, List.setIfInBounds_toArray, List.set_cons_succ, List.set_cons_zero, e10]
              generalize f 33 = y33
              generalize f 34 = y34
              generalize f 35 = y35
              generalize f 36 = y36
              generalize f 37 = y37
              generalize f 38 = y38
              generalize f 39 = y39
              generalize f 40 = y40
              clear hC hf hall hfr e10 hk hG f
              have k3 : w'.cell? ⟨w.heap.size + 1 + 1 + 1, 0, none⟩ = some .nilIface := hbxz.b3.cell 0
              have t3 := hbxz.b3.thawed 0
              cases hx : Un.exL tb (Dc.rs m (S : Int)) (Dc.rs a (S : Int)) with
              | none =>
                have hno : Un.ex1 l a m S = none := HEX.out.trans hx
                rw [excI_none]
                clear hx
                gi_wp2
                refine ⟨below_keeps hbz, trivial, ⟨hbxz, fun y hy => ?_⟩, hbel.trans (hbz.mono hsz)⟩
                rcases List.mem_append.1 hy with h | h
                · exact hpre y h
                · rw [List.mem_singleton.1 h]
                  exact hno
              | some q =>
                have hyes : Un.ex1 l a m S = some q := HEX.out.trans hx
                rw [excI_some]
                obtain ⟨ev, hev⟩ : ∃ ev, Value.agg (excA tb q.1) = ev := ⟨_, rfl⟩
                rw [hev]
                have HEV := Lib.hid hev
                clear hx hev
                gi_wp2
                refine ⟨(below_keeps hbz).trans (KeepsOthers.setCell _ _ _), ⟨rfl, pre, ⟨S, hS⟩, q, rfl, hpre, hyes, ?_⟩, (hbel.trans (hbz.mono hsz)).setCell (p := ⟨w.heap.size + 1 + 1 + 1, 0, none⟩) (by simp; omega) _⟩
                have := hbxz.set (.iface 87 (.agg (excA tb q.1)))
                rw [HTT.out] at this
                rw [← HEV.out, HTT.out]
                exact this
        case done =>
          rintro D ys W hD hS ⟨⟨hbox, hno⟩, hbel⟩ hK
          have k3 : W.cell? ⟨w.heap.size + 1 + 1 + 1, 0, none⟩ = some .nilIface := hbox.b3.cell 0
          have t3 := hbox.b3.thawed 0
          gi_wp2
          have hbox2 := hbox.set .nilIface
          have hK' := (KeepsOthers.setCell W ⟨w.heap.size + 1 + 1 + 1, 0, none⟩ .nilIface).same D _ hK rfl
          refine ⟨by simp, .inl ⟨_, _, rfl, run_takeDeferred hK', ?_⟩⟩
          have hbx5 := hbox2.own (grownBy_putObj' _ D (.deferred none)) (fun r e => by cases e; exact ⟨_, hK', rfl⟩)
          have z3 := hbx5.b3.cell 0
          refine ⟨.nilIface, ?_, ?_, (hbel.setCell (p := ⟨w.heap.size + 1 + 1 + 1, 0, none⟩) (by simp; omega) _).trans (belowK_b (w := w) (Nat.le_refl _) _ D _ _ (by omega) hK' rfl rfl)⟩
          · simp at z3
            simp [results, Tryz.f51, go_sem, z3]
          · rw [HF.out, Un.pre_none hS hno]
            rfl
        case stop =>
          rintro D cd pre W hD hSp ⟨⟨rfl, pre', x, p, rfl, hno, hmis, hbox⟩, hbel⟩ hK
          gi_wp2
          refine ⟨by simp, .inl ⟨_, _, rfl, run_takeDeferred hK, ?_⟩⟩
          have hbx5 := hbox.own (grownBy_putObj' _ D (.deferred none)) (fun r e => by cases e; exact ⟨_, hK, rfl⟩)
          have z3 := hbx5.b3.cell 0
          refine ⟨excO l (some (x.val, p)), ?_, ?_, hbel.trans (belowK_b (w := w) (Nat.le_refl _) W D _ _ (by omega) hK rfl rfl)⟩
          · simp at z3
            simp [results, Tryz.f51, go_sem, z3]
          · rw [HF.out, Un.pre_found hSp hno hmis]
end Go.Proofs.YtgebjnoicgmdoaaGreatDoor
