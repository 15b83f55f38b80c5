/- The first place where a level does not fit below another one: firstMisfit of the program. -/
import Derived.WalkMore
import Derived.Test.YtmbcjddahncocaaDoorDSig
import Derived.Test.YtmbcjddahncocaaDoorUnMath

namespace Go.Proofs.YtmbcjddahncocaaDoor
open Go.RowKit Go.Shelf
attribute [local go_sem] Oper.semAt_some

/-- what firstMisfit gives back -/
def misV (r : Option (Nat × Int)) : Value := .tuple #[.agg #[.int .i64 ((r.map fun x => ((x.1 : Nat) : Int)).getD 0), .int .i64 ((r.map fun x => x.2).getD 0)], .bool r.isSome]

theorem blk_own {W W' : World} {g : Nat} {t : TypeId} {cs : Array Value} {row : Option Nat} (h : Blk W g t cs) (hg : W.grownBy W' row) (hr : ∀ r, row = some r → ∃ o : Obj, W.heap[r]? = some o ∧ o.isCells = false) : Blk W' g t cs :=
  h.grown hg (fun e => by
    obtain ⟨o, ho, hc⟩ := hr g e.symm
    unfold Blk at h
    rw [h] at ho
    injection ho with ho
    subst ho
    cases hc)
theorem Blk.made' {X : World} {g : Nat} {t : TypeId} {cs : Array Value} (h : g = X.heap.size) : Blk (X.alloc (.cells cs t)) g t cs := by subst h; exact Blk.made _ _ _
/-- the five boxes of firstMisfit -/
structure MBox (W : World) (g : Nat) (v1 : Value) (u : Int) (v2 : Value) (s p : Int) (f : Bool) : Prop where
  b0 : Blk W g 24 #[v1]
  b1 : Blk W (g + 1) 3 #[.int .i64 u]
  b2 : Blk W (g + 1 + 1) 24 #[v2]
  b3 : Blk W (g + 1 + 1 + 1) 92 #[.int .i64 s, .int .i64 p]
  b4 : Blk W (g + 1 + 1 + 1 + 1) 4 #[.bool f]
theorem MBox.below {W W' : World} {g B : Nat} {v1 v2 : Value} {u s p : Int} {f : Bool} (h : MBox W g v1 u v2 s p f) (hb : Below B W W') (hg : g + 4 < B) : MBox W' g v1 u v2 s p f :=
  ⟨h.b0.below hb (by omega), h.b1.below hb (by omega), h.b2.below hb (by omega), h.b3.below hb (by omega), h.b4.below hb (by omega)⟩
theorem MBox.own {W W' : World} {g : Nat} {v1 v2 : Value} {u s p : Int} {f : Bool} {row : Option Nat} (h : MBox W g v1 u v2 s p f) (hg : W.grownBy W' row) (hr : ∀ r, row = some r → ∃ o : Obj, W.heap[r]? = some o ∧ o.isCells = false) : MBox W' g v1 u v2 s p f :=
  ⟨blk_own h.b0 hg hr, blk_own h.b1 hg hr, blk_own h.b2 hg hr, blk_own h.b3 hg hr, blk_own h.b4 hg hr⟩
theorem MBox.set {W : World} {g : Nat} {v1 v2 : Value} {u s p : Int} {f : Bool} (h : MBox W g v1 u v2 s p f) (s' p' : Int) (f' : Bool) :
    MBox (((W.setCell ⟨g + 1 + 1 + 1, 0, none⟩ (.int .i64 s')).setCell ⟨g + 1 + 1 + 1, 1, none⟩ (.int .i64 p')).setCell ⟨g + 1 + 1 + 1 + 1, 0, none⟩ (.bool f')) g v1 u v2 s' p' f' := by
  refine ⟨((h.b0.other (by simp; omega) _).other (by simp; omega) _).other (by simp; omega) _, ((h.b1.other (by simp) _).other (by simp) _).other (by simp) _, ((h.b2.other (by simp) _).other (by simp) _).other (by simp) _, ?_, ?_⟩
  · have := ((h.b3.put 0 (.int .i64 s')).put 1 (.int .i64 p')).other (p := ⟨g + 1 + 1 + 1 + 1, 0, none⟩) (by simp) (.bool f')
    simpa using this
  · have := ((h.b4.other (p := ⟨g + 1 + 1 + 1, 0, none⟩) (by simp) (.int .i64 s')).other (p := ⟨g + 1 + 1 + 1, 1, none⟩) (by simp) (.int .i64 p')).put 0 (.bool f')
    simpa using this
theorem MBox.drew {W : World} {g : Nat} {v1 v2 : Value} {u s p : Int} {f : Bool} (h : MBox W g v1 u v2 s p f) : MBox W.drew g v1 u v2 s p f := ⟨h.b0, h.b1, h.b2, h.b3, h.b4⟩
theorem below_keeps {W W' : World} (h : Below W.heap.size W W') : KeepsOthers W W' :=
  ⟨h.size, fun k _ hk _ => (h.block k (Array.getElem?_eq_some_iff.1 hk).1).trans hk⟩
/-- no atom of a, raised, is too great for the sign -/
abbrev NoMis (u : Int) (a b : List (Int × Int)) (S : Nat) : Prop := Dc.misL (Dc.rs b (S : Int)) (Nm.up u (Dc.rs a (S : Int))) = none

theorem misS_reach {u : Int} {a b : List (Int × Int)} : ∀ {M : Nat}, M ≤ 32 → (∀ T, T < M → NoMis u a b T) → Dc.misR u a b = Dc.misS u a b M (32 - M) := by
  intro M
  induction M with
  | zero => exact fun _ _ => rfl
  | succ M ih =>
    intro hM h
    rw [ih (by omega) (fun T hT => h T (by omega))]
    exact Dc.misS_go (by omega) (h M (by omega))
theorem mis_none {u : Int} {a b : List (Int × Int)} {ys : List (Fin 32)} (hS : ys.map Fin.val = List.range 32) (hno : ∀ y ∈ ys, NoMis u a b y.val) : Dc.misR u a b = none := by
  rw [misS_reach (M := 32) (Nat.le_refl _) fun T hT => ?_]
  · exact Dc.misS_end (Nat.le_refl _)
  · have : T ∈ ys.map Fin.val := by rw [hS]; exact List.mem_range.2 hT
    obtain ⟨y, hy, rfl⟩ := List.mem_map.1 this
    exact hno y hy
theorem mis_found {u p : Int} {a b : List (Int × Int)} {pre : List (Fin 32)} {x : Fin 32} (hSp : ∃ k, k ≤ 32 ∧ (pre ++ [x]).map Fin.val = List.range k) (hno : ∀ y ∈ pre, NoMis u a b y.val)
    (hm : Dc.misL (Dc.rs b ((x.val : Nat) : Int)) (Nm.up u (Dc.rs a ((x.val : Nat) : Int))) = some p) : Dc.misR u a b = some (x.val, p) := by
  obtain ⟨k, hk, he⟩ := hSp
  have hl := congrArg List.length he
  simp only [List.length_map, List.length_append, List.length_cons, List.length_nil, List.length_range] at hl
  obtain rfl : k = pre.length + 1 := by omega
  rw [List.range_succ, List.map_append] at he
  obtain ⟨h1, h2⟩ := List.append_inj he (by simp)
  have hx : x.val = pre.length := by simpa using h2
  rw [misS_reach (M := pre.length) (by omega) fun T hT => ?_]
  · rw [hx] at hm ⊢
    exact Dc.misS_hit (by omega) hm
  · have : T ∈ pre.map Fin.val := by rw [h1]; exact List.mem_range.2 hT
    obtain ⟨y, hy, rfl⟩ := List.mem_map.1 this
    exact hno y hy
theorem up_get {u : Int} {l : List (Int × Int)} {k : Nat} (hk : k < l.length) : (Nm.up u l).getD k (0, 0) = ((l.getD k (0, 0)).1, (l.getD k (0, 0)).2 + u) := by
  simp [Nm.up, List.getD_eq_getElem?_getD, List.getElem?_map, List.getElem?_eq_getElem hk]

set_option maxRecDepth 100000 in
set_option maxHeartbeats 8000000 in
theorem firstMisfit_any (w : World) (B : Nat) (A1 : Option Addr) (n1 c1 : Nat) (a : List (Int × Int)) (u : Int) (A2 : Option Addr) (n2 c2 : Nat) (b : List (Int × Int)) (T : TypeId) (pv : Value) (h0 : 0 < B) (hB : B ≤ w.heap.size)
    (ha : TokR w B A1 n1 a) (hoa : Lv.levelOk a = true) (hb : TokR w B A2 n2 b) (hob : Lv.levelOk b = true) (hu0 : 0 ≤ u) (hu1 : u ≤ 1) (hE : ErrAt w T pv) :
    Calls Tryd.prog 62 #[.slice A1 n1 c1, .int .i64 u, .slice A2 n2 c2] w fun e w' => e = .returned (misV (Dc.misR u a b)) ∧ Below w.heap.size w w' := by
  refine (callsIn_wide (n := 3)).1 ?_
  refine callsIn_of_wp_marks Tryd.func62 rfl trivial ?_ rfl
  simp only [Tryd.ntmps62, List.size_toArray, List.length_cons, List.length_nil, Nat.reduceAdd, Nat.reduceSub, Array.replicate_succ, Array.replicate_zero, List.push_toArray, List.append_toArray, List.nil_append, List.cons_append]
  gi_wp2
  refine wpIn_wide.2 (wp_scope_straight ((wpIn_wide (n := 3)).1 ?_))
  refine wpIn_seq (wpIn_label ?_)
  dsimp only [Exit.then]
  gi_wp2
  have hBox : MBox (((((w.alloc (.cells #[.slice A1 n1 c1] 24)).alloc (.cells #[.int .i64 u] 3)).alloc (.cells #[.slice A2 n2 c2] 24)).alloc (.cells #[.int .i64 0, .int .i64 0] 92)).alloc (.cells #[.bool false] 4)) w.heap.size (.slice A1 n1 c1) u (.slice A2 n2 c2) 0 0 false := by
    refine ⟨((((Blk.made w _ _).alloc _).alloc _).alloc _).alloc _, ?_, ?_, ?_, ?_⟩
    · exact (((Blk.made' (by simp)).alloc _).alloc _).alloc _
    · exact ((Blk.made' (by simp)).alloc _).alloc _
    · exact (Blk.made' (by simp)).alloc _
    · exact Blk.made' (by simp)
  have hB0 : Below w.heap.size w (((((w.alloc (.cells #[.slice A1 n1 c1] 24)).alloc (.cells #[.int .i64 u] 3)).alloc (.cells #[.slice A2 n2 c2] 24)).alloc (.cells #[.int .i64 0, .int .i64 0] 92)).alloc (.cells #[.bool false] 4)) :=
    (((((Below.refl _ w).alloc (Nat.le_refl _) _).alloc (by simp) _).alloc (by simp; omega) _).alloc (by simp; omega) _).alloc (by simp; omega) _
  refine wpIn_rangeFunc_ownF rfl (by omega) (gf := 89) (lb := #[]) rfl trivial (enters_of Tryd.func89 (by kernel_rfl) rfl)
    (signs_stops Fence.wide _ trivial rfl (by omega) _) (fun _ _ => trivial) (fun _ _ _ _ _ _ _ _ => trivial) (Below.refl _ _) (fun _ => rfl)
    (fun pre W => (MBox W w.heap.size (.slice A1 n1 c1) u (.slice A2 n2 c2) 0 0 false ∧ ∀ x ∈ pre, NoMis u a b x.val) ∧ Below w.heap.size w W)
    (fun c pre W => (c = .exit 0 ∧ ∃ pre' x p, pre = pre' ++ [x] ∧ (∀ y ∈ pre', NoMis u a b y.val) ∧ Dc.misL (Dc.rs b (x.val : Int)) (Nm.up u (Dc.rs a (x.val : Int))) = some p ∧ MBox W w.heap.size (.slice A1 n1 c1) u (.slice A2 n2 c2) x.val p true) ∧ Below w.heap.size w W)
    (OwnFrom.and (Own.from (fun s A B row hs hg hr => ⟨hs.1.own hg hr, hs.2⟩) _) (ownFrom_below (Nat.le_refl _) (by simp; omega)))
    (fun c => OwnFrom.and (Own.from (fun s A B row hs hg hr => ⟨hs.1, by obtain ⟨pre', x, p, h1, h2, h3, h4⟩ := hs.2; exact ⟨pre', x, p, h1, h2, h3, h4.own hg hr⟩⟩) _) (ownFrom_below (Nat.le_refl _) (by simp; omega)))
    ⟨⟨hBox, fun x hx => by cases hx⟩, hB0⟩
    (fun x => { tmps := #[.slice A1 n1 c1, .int .i64 u, .slice A2 n2 c2, .pointer (some ⟨w.heap.size, 0, none⟩), .pointer (some ⟨w.heap.size + 1, 0, none⟩), .pointer (some ⟨w.heap.size + 1 + 1, 0, none⟩), .pointer (some ⟨w.heap.size + 1 + 1 + 1, 0, none⟩), .pointer (some ⟨w.heap.size + 1 + 1 + 1 + 1, 0, none⟩), .int .i64 ((x.val : Nat) : Int), undef, undef, undef, .int .i64 ((x.val : Nat) : Int), undef, undef, undef, undef, undef, undef, undef, undef, undef, undef, undef, undef, undef, undef, undef, undef, undef, undef, undef, undef, undef, undef, undef, undef, undef, undef, undef], defers := [] }) ?assign ?body ?done ?stop
  case assign =>
    intro l x W K hK
    gi_wp2
    exact hK
  case body =>
    rintro l pre x W ⟨⟨hbox, hpre⟩, hbel⟩ _
    obtain ⟨S, hS⟩ := x
    have hsz := hbel.size
    have hgl := hbox.b4.lt
    have k0 : W.cell? ⟨w.heap.size, 0, none⟩ = some (.slice A1 n1 c1) := hbox.b0.cell 0
    have k2 : W.cell? ⟨w.heap.size + 1 + 1, 0, none⟩ = some (.slice A2 n2 c2) := hbox.b2.cell 0
    have hsg : Sg.isSign (S : Int) = true := Dc.isSign_nat hS
    dsimp only
    gi_wp2_with fail
    refine ⟨trivial, ?_⟩
    refine (CallsIn.inRound l (callsIn_wide.2 (residualOf_any W B A2 n2 c2 b S T pv h0 (by omega) (hb.below (hbel.mono hB)) hob hsg (hE.below (hbel.mono hB) h0)))).mono ?_
    rintro e W1 ⟨A3, c3, rfl, ho3, hb3⟩
    obtain ⟨L2, hL2⟩ : ∃ L2, (Nm.rnorm (Nm.wl (S : Int) b)).length = L2 := ⟨_, rfl⟩
    have h62 := Nm.rnorm_len (Nm.wl (S : Int) b)
    rw [hL2] at ho3 h62 ⊢
    have k01 := (hb3.cell (p := ⟨w.heap.size, 0, none⟩) (by show w.heap.size < _; omega)).trans k0
    have hs3 := hb3.size
    have hbel1 := hbel.trans (hb3.mono hsz)
    clear k0 k2
    gi_wp2_with fail
    refine ⟨trivial, ?_⟩
    refine (CallsIn.inRound l (callsIn_wide.2 (residualOf_any W1 B A1 n1 c1 a S T pv h0 (by omega) (ha.below (hbel1.mono hB)) hoa hsg (hE.below (hbel1.mono hB) h0)))).mono ?_
    rintro e W2 ⟨A4, c4, rfl, ho4, hb4⟩
    obtain ⟨L1, hL1⟩ : ∃ L1, (Nm.rnorm (Nm.wl (S : Int) a)).length = L1 := ⟨_, rfl⟩
    have h61 := Nm.rnorm_len (Nm.wl (S : Int) a)
    rw [hL1] at ho4 h61 ⊢
    have ho34 := at_below' ho3 hb4
    have hs4 := hb4.size
    have HBX2 := Lib.hid ((hbox.below hb3 (by omega)).below hb4 (by omega))
    have HR1 := Lib.hid (at_reads ho4)
    have HR2 := Lib.hid (at_reads ho34)
    have HBW := Lib.hid (hb3.trans (hb4.mono hs3))
    have HBEL := Lib.hid hbel
    have HPRE := Lib.hid hpre
    have HL1 := Lib.hid hL1
    have HALL := Lib.hid (Dc.rs_rok hoa hsg)
    have HALB := Lib.hid (Dc.rs_rok hob hsg)
    have HSM := Lib.hid (Dc.rs_small (s := (S : Int)) hoa)
    clear hpre hbox hbel hbel1 hb3 hb4 ho3 ho4 ho34 hL1 hL2 k01 hsg
    gi_wp2
    gi_loopw [20] (fun i wr => ∃ k : Nat, k ≤ L1 ∧ i = .int .i64 k ∧ Hid (Dc.misL (Dc.rs b (S : Int)) (Nm.up u (Dc.rs a (S : Int))) = Dc.misL (Dc.rs b (S : Int)) ((Nm.up u (Dc.rs a (S : Int))).drop k)) ∧ Hid (Below W2.heap.size W2 wr)) (fun i _ => L1 - (intOf i).toNat)
    case atStart => exact ⟨0, Nat.zero_le _, rfl, rfl, Below.refl _ _⟩
    case round =>
      obtain ⟨k, hk, rfl, HM, HBR⟩ := hrel
      have hszr := HBR.out.size
      by_cases hlt : k < L1
      · have hki : (k : Int) < (L1 : Int) := by omega
        obtain ⟨g4, o4, hA4, hg4, hc4⟩ := HR1.out.2 (by omega)
        obtain ⟨x1, x2⟩ := hc4 k hlt
        subst hA4
        have hat := HALL.out.2.2.1.mem (Nm.mem_getD (l := Dc.rs a (S : Int)) (k := k) (by rw [HL1.out]; exact hlt))
        have hsm := HSM.out _ (Nm.mem_getD (l := Dc.rs a (S : Int)) (k := k) (by rw [HL1.out]; exact hlt))
        obtain ⟨t, ht⟩ : ∃ t, (Dc.rs a (S : Int)).getD k (0, 0) = t := ⟨_, rfl⟩
        rw [ht] at x1 x2 hat hsm
        obtain ⟨p, y⟩ := t
        simp only at hat hsm
        have hy0 := hat.2.2.1
        have y1 := (HBR.out.cell (p := ⟨g4, o4 + k * 2, none⟩) hg4).trans x1
        have y2 := (HBR.out.cell (p := ⟨g4, o4 + k * 2 + 1, none⟩) hg4).trans x2
        have HT := Lib.hid ht
        have kb1 : (wr.alloc (.cells #[.int .i64 p, .int .i64 y] 68)).cell? ⟨w.heap.size + 1, 0, none⟩ = some (.int .i64 u) := ((HBX2.out.below HBR.out (by omega)).b1.alloc _).cell 0
        clear hat hc4 ht x1 x2
        gi_wp2_with fail
        refine ⟨trivial, ?_⟩
        have hbA := HBR.out.alloc hszr (.cells #[.int .i64 p, .int .i64 (y + u)] 68)
        refine (CallsIn.inRound l (callsIn_wide.2 (residAtomLe_any (wr.alloc (.cells #[.int .i64 p, .int .i64 (y + u)] 68)) W2.heap.size p (y + u) A3 L2 c3 (Dc.rs b (S : Int)) (by simp; omega) (HR2.out.below hbA) (by omega) HALB.out.2.2.1))).mono ?_
        rintro e w5 ⟨rfl, hb5⟩
        have HB5 := Lib.hid (hbA.trans (hb5.mono (by simp; omega)))
        have hs5 := hb5.size
        simp only [World.size_alloc] at hs5
        have HG : Hid ((Nm.up u (Dc.rs a (S : Int))).getD k (0, 0) = (p, y + u)) := by
          show _ = _
          rw [up_get (by rw [HL1.out]; exact hlt), HT.out]
        have hul : k < (Nm.up u (Dc.rs a (S : Int))).length := by rw [Nm.up, List.length_map, HL1.out]; exact hlt
        cases hle : Nm.ratomLeB (p, y + u) (Dc.rs b (S : Int)) with
        | true =>
          have HM2 := Lib.hid (HM.out.trans (Dc.misL_go hul (by rw [HG.out]; exact hle)))
          clear hle hul hb5 hbA kb1 HM
          gi_wp2
          go_roundw
          case rel => exact ⟨k + 1, by omega, by go_num, HM2.out, HB5.out⟩
          case measure => simp [intOf]; omega
        | false =>
          have HM2 := Lib.hid (HM.out.trans (Dc.misL_hit hul (by rw [HG.out]; exact hle)))
          rw [HG.out] at HM2
          have kx : w5.cell? ⟨wr.heap.size, 0, none⟩ = some (.int .i64 p) := (hb5.cell (p := ⟨wr.heap.size, 0, none⟩) (by simp)).trans ((Blk.made wr _ _).cell 0)
          have hbx := HBX2.out.below HB5.out (by omega)
          have HBX := Lib.hid hbx
          have k3 : w5.cell? ⟨w.heap.size + 1 + 1 + 1, 0, none⟩ = some (.int .i64 0) := hbx.b3.cell 0
          have k4 : w5.cell? ⟨w.heap.size + 1 + 1 + 1, 1, none⟩ = some (.int .i64 0) := hbx.b3.cell 1
          have k5 : w5.cell? ⟨w.heap.size + 1 + 1 + 1 + 1, 0, none⟩ = some (.bool false) := hbx.b4.cell 0
          have t3 := hbx.b3.thawed 0
          have t4 := hbx.b3.thawed 1
          have t5 := hbx.b4.thawed 0
          have HBZ := Lib.hid (HBW.out.trans (HB5.out.mono (by omega)))
          clear hle hul hb5 hbA kb1 HM hbx
          gi_wp2
          exact ⟨(((below_keeps HBZ.out).trans (KeepsOthers.setCell _ _ _)).trans (KeepsOthers.setCell _ _ _)).trans (KeepsOthers.setCell _ _ _), ⟨rfl, pre, ⟨S, hS⟩, p, rfl, HPRE.out, HM2.out, HBX.out.set S p true⟩,
            (((HBEL.out.trans (HBZ.out.mono hsz)).setCell (p := ⟨w.heap.size + 1 + 1 + 1, 0, none⟩) (by simp; omega) _).setCell (p := ⟨w.heap.size + 1 + 1 + 1, 1, none⟩) (by simp; omega) _).setCell (p := ⟨w.heap.size + 1 + 1 + 1 + 1, 0, none⟩) (by simp; omega) _⟩
      · have hkk : ¬ (k : Int) < (L1 : Int) := by omega
        have HNO : Hid (NoMis u a b S) := HM.out.trans (Dc.misL_end (by rw [Nm.up, List.length_map, HL1.out]; omega))
        have HBZ := Lib.hid (HBW.out.trans (HBR.out.mono (by omega)))
        have HBX := Lib.hid (HBX2.out.below HBR.out (by omega))
        gi_wp2
        refine ⟨below_keeps HBZ.out, trivial, ⟨HBX.out, fun y hy => ?_⟩, HBEL.out.trans (HBZ.out.mono hsz)⟩
        rcases List.mem_append.1 hy with h | h
        · exact HPRE.out y h
        · rw [List.mem_singleton.1 h]
          exact HNO.out
  case done =>
    rintro D ys W hD hS ⟨⟨hbox, hno⟩, hbel⟩ hK
    have k3 : W.cell? ⟨w.heap.size + 1 + 1 + 1, 0, none⟩ = some (.int .i64 0) := hbox.b3.cell 0
    have k4 : W.cell? ⟨w.heap.size + 1 + 1 + 1, 1, none⟩ = some (.int .i64 0) := hbox.b3.cell 1
    have k5 : W.cell? ⟨w.heap.size + 1 + 1 + 1 + 1, 0, none⟩ = some (.bool false) := hbox.b4.cell 0
    have t3 := hbox.b3.thawed 0
    have t4 := hbox.b3.thawed 1
    have t5 := hbox.b4.thawed 0
    gi_wp2
    refine wpIn_wide.2 ?_
    go_region
    rename_i K hK2
    dsimp only [Exit.then]
    refine hK2 _ _ ?_
    gi_wp2
    have hbox2 := (hbox.set 0 0 false).drew
    have hKeep : KeepsOthers W (((W.setCell ⟨w.heap.size + 1 + 1 + 1, 0, none⟩ (.int .i64 0)).setCell ⟨w.heap.size + 1 + 1 + 1, 1, none⟩ (.int .i64 0)).setCell ⟨w.heap.size + 1 + 1 + 1 + 1, 0, none⟩ (.bool false)).drew :=
      (((KeepsOthers.setCell _ _ _).trans (KeepsOthers.setCell _ _ _)).trans (KeepsOthers.setCell _ _ _)).trans (KeepsOthers.drew _)
    have hK' := hKeep.same D _ hK rfl
    refine ⟨by simp, .inl ⟨_, _, rfl, run_takeDeferred hK', ?_⟩⟩
    have hbx3 := hbox2.own (grownBy_putObj' _ D (.deferred none)) (fun r e => by cases e; exact ⟨_, hK', rfl⟩)
    have z3 := hbx3.b3.cell 0
    have z4 := hbx3.b3.cell 1
    have z5 := hbx3.b4.cell 0
    refine ⟨misV (Dc.misR u a b), ?_, rfl, ((((hbel.setCell (p := ⟨w.heap.size + 1 + 1 + 1, 0, none⟩) (by simp; omega) _).setCell (p := ⟨w.heap.size + 1 + 1 + 1, 1, none⟩) (by simp; omega) _).setCell (p := ⟨w.heap.size + 1 + 1 + 1 + 1, 0, none⟩) (by simp; omega) _).drew).trans (belowK_b (w := w) (Nat.le_refl _) _ D _ _ (by simp at hD; omega) hK' rfl rfl)⟩
    rw [mis_none hS hno]
    simp at z3 z4 z5
    simp [results, Tryd.f62, go_sem, z3, z4, z5, misV]
  case stop =>
    rintro D c pre W hD hSp ⟨⟨rfl, pre', x, p, rfl, hno, hmis, hbox⟩, hbel⟩ hK
    have k3 : W.cell? ⟨w.heap.size + 1 + 1 + 1, 0, none⟩ = some (.int .i64 ((x.val : Nat) : Int)) := hbox.b3.cell 0
    have k4 : W.cell? ⟨w.heap.size + 1 + 1 + 1, 1, none⟩ = some (.int .i64 p) := hbox.b3.cell 1
    have k5 : W.cell? ⟨w.heap.size + 1 + 1 + 1 + 1, 0, none⟩ = some (.bool true) := hbox.b4.cell 0
    have t3 := hbox.b3.thawed 0
    have t4 := hbox.b3.thawed 1
    have t5 := hbox.b4.thawed 0
    gi_wp2
    refine wpIn_wide.2 ?_
    go_region
    rename_i K hK2
    dsimp only [Exit.then]
    refine hK2 _ _ ?_
    gi_wp2
    have hbox2 := (hbox.set x.val p true).drew
    have hKeep : KeepsOthers W (((W.setCell ⟨w.heap.size + 1 + 1 + 1, 0, none⟩ (.int .i64 ((x.val : Nat) : Int))).setCell ⟨w.heap.size + 1 + 1 + 1, 1, none⟩ (.int .i64 p)).setCell ⟨w.heap.size + 1 + 1 + 1 + 1, 0, none⟩ (.bool true)).drew :=
      (((KeepsOthers.setCell _ _ _).trans (KeepsOthers.setCell _ _ _)).trans (KeepsOthers.setCell _ _ _)).trans (KeepsOthers.drew _)
    have hK' := hKeep.same D _ hK rfl
    refine ⟨by simp, .inl ⟨_, _, rfl, run_takeDeferred hK', ?_⟩⟩
    have hbx3 := hbox2.own (grownBy_putObj' _ D (.deferred none)) (fun r e => by cases e; exact ⟨_, hK', rfl⟩)
    have z3 := hbx3.b3.cell 0
    have z4 := hbx3.b3.cell 1
    have z5 := hbx3.b4.cell 0
    refine ⟨misV (Dc.misR u a b), ?_, rfl, ((((hbel.setCell (p := ⟨w.heap.size + 1 + 1 + 1, 0, none⟩) (by simp; omega) _).setCell (p := ⟨w.heap.size + 1 + 1 + 1, 1, none⟩) (by simp; omega) _).setCell (p := ⟨w.heap.size + 1 + 1 + 1 + 1, 0, none⟩) (by simp; omega) _).drew).trans (belowK_b (w := w) (Nat.le_refl _) _ D _ _ (by simp at hD; omega) hK' rfl rfl)⟩
    rw [mis_found hSp hno hmis]
    simp at z3 z4 z5
    simp [results, Tryd.f62, go_sem, z3, z4, z5, misV]
end Go.Proofs.YtmbcjddahncocaaDoor
