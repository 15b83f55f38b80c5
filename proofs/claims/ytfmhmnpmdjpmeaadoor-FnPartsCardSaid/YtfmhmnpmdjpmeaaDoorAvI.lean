/- Rows beside the machine: what lies apart from its two blocks stays. -/
/- ArenaEval of the program. -/
import Derived.Test.YtfmhmnpmdjpmeaaDoorMkAct
import Derived.Test.YtfmhmnpmdjpmeaaDoorNdKpI
import Derived.Test.YtfmhmnpmdjpmeaaDoorAvS

namespace Go.Proofs.YtfmhmnpmdjpmeaaDoor
open Go.RowKit

theorem Mach.box {w : World} {B bm : Nat} {env st : List Int} (h : Mach w B bm env st) : bm < w.heap.size := by obtain ⟨_, _, _, _, hb, _⟩ := h; exact hb.lt
theorem stk_lt {w : World} {B bm g : Nat} {env st : List Int} (h : Mach w B bm env st) (hs : StkB w bm g) : g < w.heap.size := by
  obtain ⟨_, he, A, c, hblk, hown⟩ := h
  obtain ⟨v, h1, h2⟩ := hs
  rw [(hblk.cell 5).trans (mach_stack env _ he)] at h1
  injection h1 with h1
  subst h1
  exact (hown.lt g h2).2
/-- the row of v lies beside the machine -/
def Apart (w : World) (bm : Nat) (v : Value) : Prop := ∀ g, v.ownBlock = some g → g < w.heap.size ∧ g ≠ bm ∧ ¬ StkB w bm g
theorem Apart.keep {w w' : World} {bm : Nat} {v : Value} (h : Apart w bm v) (hk : KeepA bm w w') : Apart w' bm v := fun g hg => by
  obtain ⟨h1, h2, h3⟩ := h g hg
  exact ⟨Nat.lt_of_lt_of_le h1 hk.1, h2, (hk.2 g h1 h2 h3).2⟩
theorem own_keepA {w w' : World} {bm base n size : Nat} {e : TypeId} {v : Value} {xs : List Value} (h : w.ownsRow base e size v n xs) (ha : Apart w bm v) (hk : KeepA bm w w') : w'.ownsRow base e size v n xs := by
  refine ⟨h.1, ?_⟩
  rcases h.2 with hn | ⟨b, cap, cur, hv, h1, h2, h3⟩
  · exact .inl hn
  · obtain ⟨g1, g2, g3⟩ := ha b (by rw [hv]; rfl)
    exact .inr ⟨b, cap, cur, hv, h1, (hk.2 b g1 g2 g3).1.trans h2, h3⟩
theorem blk_keepA {w w' : World} {bm g : Nat} {t : TypeId} {cs : Array Value} (h : Blk w g t cs) (h1 : g ≠ bm) (h2 : ¬ StkB w bm g) (hk : KeepA bm w w') : Blk w' g t cs := (hk.2 g h.lt h1 h2).1.trans h
theorem stk_below {w w' : World} {bm g : Nat} (hm : bm < w.heap.size) (hb : Below w.heap.size w w') (h : StkB w' bm g) : StkB w bm g := by
  obtain ⟨v, h1, h2⟩ := h
  exact ⟨v, (hb.cell (p := ⟨bm, 5, none⟩) hm).symm.trans h1, h2⟩
theorem Apart.fresh {w w' : World} {B bm base n size : Nat} {env st : List Int} {e : TypeId} {v : Value} {xs : List Value} (hm : Mach w B bm env st) (hb : Below w.heap.size w w') (h : w'.ownsRow base e size v n xs) (hbase : w.heap.size ≤ base) : Apart w' bm v := fun g hg => by
  have h1 := h.lt g hg
  have h2 := hm.box
  refine ⟨h1.2, by omega, fun hs => ?_⟩
  have := stk_lt hm (stk_below h2 hb hs)
  omega
theorem Mach.below' {w w' : World} {B bm : Nat} {env st : List Int} (h : Mach w B bm env st) (hb : Below w.heap.size w w') : Mach w' B bm env st := by
  obtain ⟨hB, he, A, c, hblk, hown⟩ := h
  refine ⟨hB, he, A, c, hblk.below hb hblk.lt, ?_⟩
  refine ⟨hown.1, ?_⟩
  rcases hown.2 with hn | ⟨g, cap, cur, hv, hb1, hgg, rest⟩
  · exact .inl hn
  · exact .inr ⟨g, cap, cur, hv, hb1, (hb.block g (Array.getElem?_eq_some_iff.1 hgg).1).trans hgg, rest⟩
/-- a row beside the machine grows: the machine stays, and the row goes on beside it -/
theorem mach_grown {w w' : World} {B bm : Nat} {env st : List Int} {v v' : Value} (h : Mach w B bm env st) (hg : w.grownBy w' v.ownBlock) (ha : Apart w bm v) (hat : v'.ownBlock = v.ownBlock ∨ v'.ownBlock = some w.heap.size)
    (hlt : ∀ g, v'.ownBlock = some g → g < w'.heap.size) : Mach w' B bm env st ∧ Apart w' bm v' := by
  have hbx := h.box
  have hbm : some bm ≠ v.ownBlock := fun e => (ha bm e.symm).2.1 rfl
  obtain ⟨hB, he, A, c, hblk, hown⟩ := h
  have hblk' := hblk.grown hg hbm
  have hc := (hblk.cell 5).trans (mach_stack env _ he)
  have hc' := (hblk'.cell 5).trans (mach_stack env _ he)
  refine ⟨⟨hB, he, A, c, hblk', hown.kept hg ?_⟩, fun g hg' => ⟨hlt g hg', ?_, ?_⟩⟩
  · cases hv : (Value.slice A st.length c).ownBlock with
    | none => exact .inl rfl
    | some g => exact .inr fun e => (ha g e.symm).2.2 ⟨_, hc, hv⟩
  · rcases hat with e | e
    · rw [e] at hg'
      exact (ha g hg').2.1
    · rw [e] at hg'
      injection hg' with hg'
      omega
  · rintro ⟨u, hu, ho⟩
    rw [hc'] at hu
    injection hu with hu
    subst hu
    rcases hat with e | e
    · rw [e] at hg'
      exact (ha g hg').2.2 ⟨_, hc, ho⟩
    · rw [e] at hg'
      injection hg' with hg'
      have := (hown.lt g ho).2
      omega
end Go.Proofs.YtfmhmnpmdjpmeaaDoor

namespace Go.Proofs.YtfmhmnpmdjpmeaaDoor
open Go.RowKit

/-- the machine with an env is laid -/
theorem laid_mach (w : World) (B2 : Nat) (A2 : Option Addr) (n2 c2 : Nat) (env : List Int) (hB2 : B2 ≤ w.heap.size) (hR : IntR w B2 A2 n2 env) (hlen : env.length = 5) :
    ∃ w1, (Builtin.copy_ #[40, 40] 3 #[.slice (some ⟨w.heap.size, 0, none⟩) 5 5, .slice A2 n2 c2]).run Tryd.prog (w.alloc (.cells #[.int .i64 0, .int .i64 0, .int .i64 0, .int .i64 0, .int .i64 0, .slice none 0 0] 96)) = .ok (.int .i64 5) w1 ∧
      Mach w1 w.heap.size w.heap.size env [] ∧ Below w.heap.size w w1 := by
  obtain ⟨b, off, rfl, hb, hcell⟩ := hR.2 (by have := hR.1; omega)
  have hb3 : Below w.heap.size w (w.alloc (.cells #[.int .i64 0, .int .i64 0, .int .i64 0, .int .i64 0, .int .i64 0, .slice none 0 0] 96)) := (Below.refl _ _).alloc (Nat.le_refl _) _
  obtain ⟨W, hW⟩ : ∃ X, w.alloc (.cells #[.int .i64 0, .int .i64 0, .int .i64 0, .int .i64 0, .int .i64 0, .slice none 0 0] 96) = X := ⟨_, rfl⟩
  rw [hW] at hb3 ⊢
  have HC : ∀ j v, (env.map (Value.int .i64))[j]? = some v → W.cell? ((⟨b, off, none⟩ : Addr).add j) = some v := by
    intro j v hj
    have hjl : j < env.length := by
      have := (List.getElem?_eq_some_iff.1 hj).1
      simpa using this
    have hadd : (⟨b, off, none⟩ : Addr).add j = ⟨b, off + j, none⟩ := by unfold Addr.add; split <;> simp_all
    rw [hadd, hb3.cell (p := ⟨b, off + j, none⟩) (by show b < w.heap.size; omega), hcell j (by rw [← hR.1]; exact hjl)]
    rw [← hj]
    simp [List.getElem?_eq_getElem hjl]
  have hsz1 : (Tryd.prog.info? 3).map (·.size) = some 1 := by kernel_rfl
  have hg : W.heap[w.heap.size]? = some (.cells #[.int .i64 0, .int .i64 0, .int .i64 0, .int .i64 0, .int .i64 0, .slice none 0 0] 96 (0, 0)) := by
    rw [← hW]
    exact heap_alloc_new w _
  have hcl : (env.map (Value.int .i64)).length = Nat.min n2 5 := by
    have := hR.1
    rw [List.length_map, hlen, ← this, hlen]; rfl
  have hrun := run_copy_row (P := Tryd.prog) W 40 40 3 3 w.heap.size 0 5 5 ⟨b, off, none⟩ n2 c2 _ 96 (env.map (Value.int .i64)) Tryd.underlying40 hsz1 hg hcl HC (by simp [hlen]) (by intro v hv; obtain ⟨x, _, rfl⟩ := List.mem_map.1 hv; rfl)
  rw [List.length_map, hlen] at hrun
  refine ⟨_, hrun, ⟨Nat.le_refl _, hlen, none, 0, ?_, World.ownsRow_nil _ _ _ _⟩, ?_⟩
  · have := setRow_heap W w.heap.size _ ((List.take 0 #[Value.int .i64 0, .int .i64 0, .int .i64 0, .int .i64 0, .int .i64 0, .slice none 0 0].toList ++ env.map (Value.int .i64) ++ List.drop (0 + 5) #[Value.int .i64 0, .int .i64 0, .int .i64 0, .int .i64 0, .int .i64 0, .slice none 0 0].toList).toArray) 96 _ hg
    simpa [machCells, Blk] using this
  · exact below_setRow hb3 (Nat.le_refl _) _
theorem opsR_in {o u a b : Int} {k : Nat} (h : ndOk (o, u, a, b) k = true) : ∀ z ∈ opsR a b, 0 ≤ z ∧ z < k := by
  have h1 := ndOk_ops h
  have hp : ∀ x : Int, (x = -1 ∨ (0 ≤ x ∧ x < k)) → ∀ z ∈ opP x, 0 ≤ z ∧ z < k := by
    intro x hx z hz
    unfold opP at hz
    split at hz
    · cases hz
    · simp at hz
      omega
  intro z hz
  have hz' : z ∈ opP a ++ opP b := hz
  rw [List.mem_append] at hz'
  rcases hz' with hz' | hz'
  · exact hp a h1.1 z hz'
  · exact hp b h1.2 z hz'
theorem take_succ_int {l : List Int} {k : Nat} (hk : k < l.length) : l.take (k + 1) = l.take k ++ [l.getD k 0] := by
  rw [List.take_add_one, List.getElem?_eq_getElem hk]
  simp [List.getD_eq_getElem?_getD, hk]
theorem ownN_cap {w : World} {base n c : Nat} {A : Option Addr} {l : List Nd} (h : OwnN w base A n c l) : n ≤ c := by
  rcases h.2 with ⟨e, h0⟩ | ⟨g, cap, cur, hv, _, _, h1, _⟩
  · omega
  · injection hv with _ _ h3
    omega

set_option maxRecDepth 100000 in
set_option maxHeartbeats 8000000 in
theorem implAEval_any (w : World) (B : Nat) (A : Option Addr) (n c : Nat) (l : List Nd) (x : Int) (B2 : Nat) (A2 : Option Addr) (n2 c2 : Nat) (env : List Int) (T : TypeId) (pv : Value) (h0G : 0 < B) (hB : B ≤ w.heap.size) (hl : NodR w B A n l) (hn : n ≤ 1048576)
    (hB2 : B2 ≤ w.heap.size) (hR : IntR w B2 A2 n2 env) (hn2 : n2 ≤ 1048576) (hE : ErrAt w T pv) :
    Calls Tryd.prog 27 #[.slice A n c, .int .i64 x, .slice A2 n2 c2] w fun e w' => e = .returned (evalV (aevR l n x env)) ∧ Below w.heap.size w w' := by
  have hb0 : Below w.heap.size w (w.alloc (.cells #[.int .i64 x] 3)) := (Below.refl _ _).alloc (Nat.le_refl _) _
  obtain ⟨w0, hw0⟩ : ∃ X, w.alloc (.cells #[.int .i64 x] 3) = X := ⟨_, rfl⟩
  have hr0 : IntR w0 (w.heap.size + 1) (some ⟨w.heap.size, 0, none⟩) 1 [x] := by
    refine ⟨rfl, fun _ => ⟨w.heap.size, 0, rfl, by omega, fun k hk => ?_⟩⟩
    obtain rfl : k = 0 := by omega
    rw [← hw0]
    exact (Blk.made w 3 #[.int .i64 x]).cell 0
  have hs1 : w.heap.size + 1 ≤ w0.heap.size := by rw [← hw0]; simp
  rw [hw0] at hb0
  have HW0 := Lib.hid hw0
  have HR := Lib.hid hR
  clear hw0 hR
  go_enter Tryd.func27, Tryd.ntmps27
  go_wp2_with fail
  rw [HW0.out]
  refine (arenaWith_any w0 B (w.heap.size + 1) A (some ⟨w.heap.size, 0, none⟩) n c 1 1 l [x] (by omega) hs1 (hl.below (hb0.mono hB)) hr0 hn (by omega)).mono ?_
  rintro e w1 ⟨rfl, hb1, hA⟩
  have HB1 := Lib.hid (hb0.trans (hb1.mono hb0.size))
  have hlen := hl.1
  have hws : w.heap.size ≤ w1.heap.size := HB1.out.size
  clear hb0 hb1 hr0 HW0 hl
  cases hok : (arenaOkR l && idxR n [x]) with
  | false =>
    have HZ : Hid (aevR l n x env = none) := by show _ = _; unfold aevR; rw [if_neg (by rw [hok]; simp)]
    clear hok hA
    unfold awV
    go_wp2
    go_ret2
    exact ⟨by rw [HZ.out]; rfl, HB1.out⟩
  | true =>
    obtain ⟨A', c', D', hA'⟩ := hA hok
    have HOK := Lib.hid hok
    have hr1 := HR.out.below (HB1.out.mono hB2)
    clear hA hok
    unfold awV
    go_wp2_with fail
    refine (envOk_any w1 B2 A2 n2 c2 env hr1 (by omega)).mono ?_
    rintro e w' ⟨rfl, rfl⟩
    cases he : envOk env with
    | false =>
      have HZ : Hid (aevR l n x env = none) := by show _ = _; unfold aevR; rw [if_neg (by rw [he]; simp)]
      clear he hr1 hA'
      go_wp2
      go_ret2
      exact ⟨by rw [HZ.out]; rfl, HB1.out⟩
    | true =>
      have HZ : Hid (aevR l n x env = some ((avR env l (x.toNat + 1)).getD x.toNat 0)) := by show _ = _; unfold aevR; rw [if_pos (by rw [he, HOK.out]; rfl)]
      obtain ⟨h5, hbd⟩ := envOk_mem he
      have hok := HOK.out
      rw [Bool.and_eq_true, idx_one, Bool.and_eq_true, decide_eq_true_eq, decide_eq_true_eq] at hok
      obtain ⟨ha, h0, h1⟩ := hok
      unfold arenaOkR at ha
      rw [Bool.and_eq_true, decide_eq_true_eq, decide_eq_true_eq, hlen] at ha
      obtain ⟨hn3, hall⟩ := ha
      obtain ⟨i, rfl⟩ : ∃ i : Nat, x = i := ⟨x.toNat, by omega⟩
      rw [Int.toNat_natCast] at HZ
      have hin : i < n := by omega
      have HALL := Lib.hid hall
      have HBD := Lib.hid hbd
      obtain ⟨w2, hcopy, hm2, hb2⟩ := laid_mach w1 B2 A2 n2 c2 env (Nat.le_trans hB2 hws) hr1 h5
      have hrow := OwnN.reads hA'.row
      have HROW := Lib.hid hrow
      have hcap : n ≤ c' := ownN_cap hA'.row
      have hbx2 := (hA'.box.below hb2 hA'.box.lt).cell 0
      simp at hbx2
      have HM2 := Lib.hid hm2
      have HB2 := Lib.hid hb2
      have HEE : Hid (ErrAt w1 T pv) := hE.below (HB1.out.mono hB) (by omega)
      have hG1 : Hid (0 < w1.heap.size) := by show 0 < w1.heap.size; omega
      have hcap2 : ¬ ((c' : Int) < (i : Int) + 1) := by omega
      have HS0 : Hid (OwnI w2 w1.heap.size none 0 0 (avR env l 0)) := World.ownsRow_nil _ _ _ _
      have HA0 : Hid (Apart w2 w1.heap.size (.slice none 0 0)) := fun g hg => by simp [Value.ownBlock] at hg
      obtain ⟨i0, hi, hz0, hz1, hz2⟩ := info_parts info_int
      clear hr1 he hbd h5 hall h0 h1 HOK hA' hrow hm2 hb2 hE
      go_wp2
      go_loopw [11, 43] (fun v j wr => ∃ (k : Nat) (Av : Option Addr) (cv : Nat), k ≤ i + 1 ∧ j = .int .i64 k ∧ v = .slice Av k cv ∧ Hid (OwnI wr w1.heap.size Av k cv (avR env l k)) ∧ Hid (Apart wr w1.heap.size (.slice Av k cv)) ∧ Hid (Mach wr w1.heap.size w1.heap.size env []) ∧ Hid (Below w1.heap.size w1 wr)) (fun _ j _ => i + 1 - (intOf j).toNat)
      case atStart => exact ⟨0, none, 0, by omega, rfl, rfl, HS0.out, HA0.out, HM2.out, HB2.out⟩
      case round =>
        clear HS0 HA0 HM2 HB2 hcopy hbx2
        obtain ⟨k, Av, cv, hk, rfl, rfl, HO, HAP, HM, HB⟩ := hrel
        obtain ⟨wo, hwo⟩ : ∃ X, X = wr := ⟨_, rfl⟩
        subst hwo
        have hsr := HB.out.size
        by_cases hki : k < i + 1
        · have hkn : k < n := by omega
          obtain ⟨b, off, rfl, hb, hc⟩ := HROW.out.2 (by omega)
          obtain ⟨x1, x2, x3, x4⟩ := hc k hkn
          obtain ⟨t, ht⟩ : ∃ t, l.getD k nd0 = t := ⟨_, rfl⟩
          have hok := (HALL.out k hkn).1
          rw [ht] at x1 x2 x3 x4 hok
          obtain ⟨o, u, a, y⟩ := t
          have k1 := (HB.out.cell (p := ⟨b, off + k * 4, none⟩) hb).trans x1
          have k2 := (HB.out.cell (p := ⟨b, off + k * 4 + 1, none⟩) hb).trans x2
          have k3 := (HB.out.cell (p := ⟨b, off + k * 4 + 2, none⟩) hb).trans x3
          have k4 := (HB.out.cell (p := ⟨b, off + k * 4 + 3, none⟩) hb).trans x4
          have HV : Hid (avR env l (k + 1) = avR env l k ++ [nodeV env (avR env l k) o u a y]) := by show _ = _; rw [avR, ht]
          have HBV : Hid (∀ x ∈ avR env l k, 0 ≤ x ∧ x ≤ 1000 + (k : Int)) := avR_bd HBD.out l k
          obtain ⟨vals, hvals⟩ : ∃ vals, avR env l k = vals := ⟨_, rfl⟩
          rw [hvals] at HV HBV HO
          have HST : Hid (Lv.step env (o, u) (((opsR a y).map fun x => vals.getD x.toNat 0).reverse) = some [nodeV env vals o u a y]) := nodeV_step hok
          have HOPS : Hid (∀ z ∈ opsR a y, 0 ≤ z ∧ z < k) := opsR_in hok
          have hM2 : (opsR a y).length ≤ 2 := opsTo_len a y 2
          obtain ⟨V, hV⟩ : ∃ V, nodeV env vals o u a y = V := ⟨_, rfl⟩
          rw [hV] at HV HST
          obtain ⟨Wx, hW⟩ : ∃ X, wo.alloc (.cells #[.int .i64 o, .int .i64 u, .int .i64 a, .int .i64 y] 72) = X := ⟨_, rfl⟩
          have hbx : Blk Wx wo.heap.size 72 #[.int .i64 o, .int .i64 u, .int .i64 a, .int .i64 y] := by rw [← hW]; exact Blk.made _ _ _
          have hbw : Below wo.heap.size wo Wx := by rw [← hW]; exact (Below.refl _ _).alloc (Nat.le_refl _) _
          have q0 := hbx.cell 0
          have q1 := hbx.cell 1
          have q2 := hbx.cell 2
          have q3 := hbx.cell 3
          simp at q0 q1 q2 q3
          have HBX := Lib.hid hbx
          have HBW := Lib.hid hbw
          obtain ⟨os, hos⟩ : ∃ os, opsR a y = os := ⟨_, rfl⟩
          rw [hos] at HST HOPS hM2
          obtain ⟨M, hM⟩ : ∃ M, os.length = M := ⟨_, rfl⟩
          rw [hM] at hM2
          have hC := operands_any Wx o u a y
          simp only [hos, hM] at hC
          have HC := Lib.hid hC
          have HML := Lib.hid hM
          clear hok ht hc x1 x2 x3 x4 hvals hV hbx hbw hos hM hC
          go_wp2_with fail
          refine HC.out.mono ?_
          rintro e w4 ⟨A3, c3, rfl, ho4, hb4⟩
          have hml := Mach.below' HM.out HBW.out
          have HM4 : Hid (Mach w4 w1.heap.size w1.heap.size env (((os.take 0).map fun x => vals.getD x.toNat 0).reverse)) := Mach.below' hml hb4
          have HAP4 : Hid (Apart w4 w1.heap.size (.slice A3 M c3)) := Apart.fresh hml hb4 ho4 (Nat.le_refl _)
          have hbm := HM.out.box
          have hbmx := hml.box
          have HKX : Hid (KeepA w1.heap.size wo w4) := (KeepA.below hbm HBW.out).trans (KeepA.below hbmx hb4)
          have HBX4 : Hid (Blk w4 wo.heap.size 72 #[.int .i64 o, .int .i64 u, .int .i64 a, .int .i64 y]) := HBX.out.below hb4 HBX.out.lt
          have HNS : Hid (¬ StkB w4 w1.heap.size wo.heap.size) := fun hs => by
            have := stk_lt HM.out (stk_below hbm HBW.out (stk_below hbmx hb4 hs))
            omega
          have HO4 := Lib.hid ho4
          have HB4 : Hid (Below w1.heap.size w1 w4) := (HB.out.trans (HBW.out.mono hsr)).trans (hb4.mono (by have := HBW.out.size; omega))
          have HV4 : Hid (OwnI w4 w1.heap.size Av k cv vals) := own_keepA HO.out HAP.out HKX.out
          have HVA4 : Hid (Apart w4 w1.heap.size (.slice Av k cv)) := HAP.out.keep HKX.out
          clear ho4 hb4 hml HM HBX HO HAP HB HBW hbmx HC q0 q1 q2 q3 k1 k2 k3 k4 hW
          go_wp2
          go_loopw [50] (fun j wy => ∃ q : Nat, q ≤ M ∧ j = .int .i64 q ∧ Hid (Mach wy w1.heap.size w1.heap.size env (((os.take q).map fun x => vals.getD x.toNat 0).reverse)) ∧ Hid (Below w1.heap.size w1 wy) ∧ Hid (KeepA w1.heap.size w4 wy)) (fun j _ => M - (intOf j).toNat)
          case atStart => exact ⟨0, by omega, rfl, HM4.out, HB4.out, KeepA.refl _ _⟩
          case round =>
            clear HM4 HB4
            obtain ⟨q, hq, rfl, HM, HB, HK⟩ := hrel
            have hov := own_keepA HV4.out HVA4.out HK.out
            have hoo := own_keepA HO4.out HAP4.out HK.out
            by_cases hqM : q < M
            · obtain ⟨b5, o5, rfl, hb5, hc5⟩ := (OwnI.reads hoo).2 (by omega)
              have d1 := hc5 q hqM
              obtain ⟨z, hz⟩ : ∃ z, os.getD q 0 = z := ⟨_, rfl⟩
              rw [hz] at d1
              have hmem : z ∈ os := by
                rw [← hz, List.getD_eq_getElem?_getD, List.getElem?_eq_getElem (by rw [HML.out]; exact hqM)]
                simp
              have hzb := HOPS.out z hmem
              obtain ⟨s, rfl⟩ : ∃ s : Nat, z = s := ⟨z.toNat, by omega⟩
              have hsk : s < k := by omega
              have hsk' : (s : Int) < k := by omega
              obtain ⟨b6, o6, rfl, hb6, hc6⟩ := (OwnI.reads hov).2 (by omega)
              have d2 := hc6 s hsk
              have HT : Hid ((((os.take (q + 1)).map fun x => vals.getD x.toNat 0).reverse) = vals.getD s 0 :: (((os.take q).map fun x => vals.getD x.toNat 0).reverse)) := by
                show _ = _
                rw [take_succ_int (by rw [HML.out]; exact hqM), hz, List.map_append, List.reverse_append]
                simp
              have hstl : (((os.take q).map fun x => vals.getD x.toNat 0).reverse).length ≤ 1000 := by simp; omega
              generalize (((os.take q).map fun x => vals.getD x.toNat 0).reverse) = st at HM HT hstl
              have HSTL := Lib.hid hstl
              clear hov hoo hc5 hc6 hz hmem hzb hstl
              go_wp2_with fail
              refine (pushK_any _ w1.heap.size w1.heap.size env st _ HM.out HSTL.out).mono ?_
              rintro e w' ⟨rfl, hm', hb', hk'⟩
              have HM2 : Hid (Mach w' w1.heap.size w1.heap.size env (((os.take (q + 1)).map fun x => vals.getD x.toNat 0).reverse)) := by
                show Mach _ _ _ _ _
                rw [HT.out]
                exact hm'
              have HB2 := Lib.hid (HB.out.trans hb')
              have HK2 := Lib.hid (HK.out.trans hk')
              clear hm' hb' hk' HT HM HB HK
              go_wp2
              go_roundw
              case rel => exact ⟨q + 1, by omega, by go_num, HM2.out, HB2.out, HK2.out⟩
              case measure => simp [intOf]; omega
            · obtain rfl : q = M := by omega
              clear hqM
              have hbx := blk_keepA HBX4.out (by omega) HNS.out HK.out
              have j0 := hbx.cell 0
              have j1 := hbx.cell 1
              have j2 := hbx.cell 2
              have j3 := hbx.cell 3
              simp at j0 j1 j2 j3
              have HOV := Lib.hid hov
              have HAV : Hid (Apart wr w1.heap.size (.slice Av k cv)) := HVA4.out.keep HK.out
              rw [List.take_of_length_le (by rw [HML.out]; exact Nat.le_refl _)] at HM
              have hlen2 : (((os).map fun x => vals.getD x.toNat 0).reverse).length ≤ 800 := by simp; rw [HML.out]; omega
              have HVS : Hid (∀ x ∈ ((os).map fun x => vals.getD x.toNat 0).reverse, 0 ≤ x ∧ x ≤ 100000) := by
                intro x hx
                rw [List.mem_reverse, List.mem_map] at hx
                obtain ⟨z, _, rfl⟩ := hx
                have := getD_all HBV.out (by omega) z.toNat
                omega
              generalize (((os).map fun x => vals.getD x.toNat 0).reverse) = st at HM HST HVS hlen2
              have HL2 := Lib.hid hlen2
              clear hov hoo hbx HML HOPS HV4 HVA4 HO4 HAP4 HBX4 HNS hlen2
              go_wp2_with fail
              refine (tokOf_any _ o u a y).mono ?_
              rintro e w5 ⟨rfl, hb5⟩
              have hml := Mach.below' HM.out hb5
              obtain ⟨W6, hW6⟩ : ∃ X, w5.alloc (.cells #[.int .i64 o, .int .i64 u] 70) = X := ⟨_, rfl⟩
              have hbl : Blk W6 w5.heap.size 70 #[.int .i64 o, .int .i64 u] := by rw [← hW6]; exact Blk.made _ _ _
              have hb6 : Below w5.heap.size w5 W6 := by rw [← hW6]; exact (Below.refl _ _).alloc (Nat.le_refl _) _
              have HM6 : Hid (Mach W6 w1.heap.size w1.heap.size env st) := Mach.below' hml hb6
              have HK6 : Hid (KeepA w1.heap.size wr W6) := (KeepA.below HM.out.box hb5).trans (KeepA.below hml.box hb6)
              have HB6 : Hid (Below w1.heap.size w1 W6) := (HB.out.trans (hb5.mono HB.out.size)).trans (hb6.mono (Nat.le_trans HB.out.size hb5.size))
              have HE6 : Hid (ErrAt W6 T pv) := HEE.out.below HB6.out hG1.out
              have HC6 : Hid (W6.cell? ⟨w5.heap.size, 0, none⟩ = some (.int .i64 o) ∧ W6.cell? ⟨w5.heap.size, 1, none⟩ = some (.int .i64 u)) := ⟨hbl.cell 0, hbl.cell 1⟩
              have HL6 : Hid (w5.heap.size < W6.heap.size) := hbl.lt
              clear hml hbl hb5 hb6 HM HB HK j0 j1 j2 j3
              go_wp2_with fail
              refine (actK_any W6 w1.heap.size w1.heap.size env st [V] T pv w5.heap.size 1 1 o u rfl hG1.out HM6.out HE6.out HL2.out HVS.out HL6.out HC6.out.1 HC6.out.2 HST.out).mono ?_
              rintro e w7 ⟨rfl, hm7, hb7, hk7⟩
              have HM7 := Lib.hid hm7
              have HB7 := Lib.hid (HB6.out.trans hb7)
              have HK7 := Lib.hid (HK6.out.trans hk7)
              clear hm7 hb7 hk7 HM6 HB6 HK6 HE6 HC6 HL6 hW6 HST HVS HL2
              go_wp2_with fail
              refine (popK_some w7 w1.heap.size w1.heap.size env [] V HM7.out (by simp)).mono ?_
              rintro e w8 ⟨rfl, hm8, hb8, hk8⟩
              have hkall := HK7.out.trans hk8
              have hov8 := own_keepA HOV.out HAV.out hkall
              have HAV8 := Lib.hid (HAV.out.keep hkall)
              have HM8 := Lib.hid hm8
              have HB8 := Lib.hid (HB7.out.trans hb8)
              have hs8 := HB8.out.size
              clear hm8 hb8 hk8 hkall HOV HAV HM7 HB7 HK7
              go_wp2_with (at_builtin; refine wpList_append_own_at _ rfl (.tmp 64) (.tmp 66) 40 rfl w1.heap.size 3 i0 (.int .i64 0) 1 8 Tryd.underlying40 hi hz0 hz1 hz2 rfl (by decide) (.slice Av k cv) k (vals.map (Value.int .i64)) rfl (World.ownsRow.alloc hov8 _) ⟨w8.heap.size, 0, none⟩ 1 1 [.int .i64 V] rfl rfl (cell_one_new _ _ _) (fun u hu => by simp at hu; subst hu; rfl) (by unfold maxLen; omega) (by omega) (by simp; omega) ?_; intro v' w9 hown' hgrow _ hat)
              obtain ⟨g3, c5, rfl⟩ := ownI_some hown'
              have hA9 : Below w8.heap.size w8 (w8.alloc (.cells #[.int .i64 V] 3)) := (Below.refl _ _).alloc (Nat.le_refl _) _
              have hmg := mach_grown (Mach.below' HM8.out hA9) hgrow (HAV8.out.keep (KeepA.below HM8.out.box hA9)) hat (fun g hg => (hown'.lt g hg).2)
              have HM9 := Lib.hid hmg.1
              have HAP9 := Lib.hid hmg.2
              have HO9 : Hid (OwnI w9 w1.heap.size (some ⟨g3, 0, none⟩) (k + 1) c5 (avR env l (k + 1))) := by
                show OwnI _ _ _ _ _ _
                rw [HV.out]
                simpa [OwnI] using hown'
              have HB9 : Hid (Below w1.heap.size w1 w9) := (HB8.out.trans (hA9.mono hs8)).grown hgrow (by simp; omega) (fun k h => (hov8.lt k h).1)
              clear hov8 hown' hgrow hat hmg hA9 HM8 HAV8 HB8
              go_wp2
              go_roundw
              case rel => exact ⟨k + 1, some ⟨g3, 0, none⟩, c5, by omega, by go_num, rfl, HO9.out, HAP9.out, HM9.out, HB9.out⟩
              case measure => simp [intOf]; omega
        · obtain rfl : k = i + 1 := by omega
          obtain ⟨bv, ov, rfl, hbv, hcv⟩ := (OwnI.reads HO.out).2 (by omega)
          have e1 := hcv i (by omega)
          have hib : (i : Int) < ((i + 1 : Nat) : Int) := by omega
          have HB3 := Lib.hid (HB1.out.trans (HB.out.mono hws))
          clear hcv HO HAP HM HB
          go_wp2
          go_ret2
          exact ⟨by rw [HZ.out]; rfl, HB3.out⟩
end Go.Proofs.YtfmhmnpmdjpmeaaDoor
