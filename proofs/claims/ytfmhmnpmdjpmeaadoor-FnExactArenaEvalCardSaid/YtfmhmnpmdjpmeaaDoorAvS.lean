/- The values of the nodes of an arena, one after the other. -/
/- Rows beside the machine: what lies apart from its two blocks stays. -/
/- LevelEval and LevelOk, for every argument. -/
/- ArenaEval of the model. -/
import Derived.Test.YtfmhmnpmdjpmeaaDoorNdKeep
import Derived.Test.YtfmhmnpmdjpmeaaDoorMkAct
import Derived.Test.YtfmhmnpmdjpmeaaDoorAct
import Derived.Laws.IdiomCopy
import Derived.Laws.CopyOwn
import Derived.Defers
import Derived.Test.YtfmhmnpmdjpmeaaDoorNdKey

namespace Go.Proofs.YtfmhmnpmdjpmeaaDoor
open Go.RowKit

theorem ndOk_cases {o u a b : Int} {k : Nat} (h : ndOk (o, u, a, b) k = true) :
    (o = 0 ∧ u = 0 ∧ a = -1 ∧ b = -1) ∨ (o = 4 ∧ 0 ≤ u ∧ u < 5 ∧ a = -1 ∧ b = -1) ∨ (o = 1 ∧ u = 0 ∧ a = -1 ∧ 0 ≤ b ∧ b < k) ∨ ((o = 2 ∨ o = 3) ∧ u = 0 ∧ 0 ≤ a ∧ a < k ∧ 0 ≤ b ∧ b < k) := by
  unfold ndOk tokB at h
  by_cases h4 : o = 4
  · subst h4
    simp [tkA, tkB, opdB] at h
    omega
  · by_cases h1 : o = 1
    · subst h1
      simp [tkA, tkB, opdB] at h
      omega
    · by_cases h2 : o = 2
      · subst h2
        simp [tkA, tkB, opdB] at h
        omega
      · by_cases h3 : o = 3
        · subst h3
          simp [tkA, tkB, opdB] at h
          omega
        · simp [tkA, tkB, opdB, h1, h2, h3, h4] at h
          omega
theorem getD_all {l : List Int} {P : Int → Prop} (h : ∀ x ∈ l, P x) (h0 : P 0) (i : Nat) : P (l.getD i 0) := by
  rw [List.getD_eq_getElem?_getD]
  by_cases hi : i < l.length
  · rw [List.getElem?_eq_getElem hi]
    exact h _ (List.getElem_mem hi)
  · rw [List.getElem?_eq_none (by omega)]
    exact h0
/-- the value of a node, given those of the nodes before it -/
def nodeV (env vals : List Int) (o u a b : Int) : Int :=
  if o = 4 then env.getD u.toNat 0 else if o = 1 then vals.getD b.toNat 0 + 1 else if o = 2 then max (vals.getD a.toNat 0) (vals.getD b.toNat 0)
  else if o = 3 then (if vals.getD b.toNat 0 = 0 then 0 else max (vals.getD a.toNat 0) (vals.getD b.toNat 0)) else 0
def avR (env : List Int) (l : List Nd) : Nat → List Int
  | 0 => []
  | k + 1 => avR env l k ++ [nodeV env (avR env l k) (l.getD k nd0).1 (l.getD k nd0).2.1 (l.getD k nd0).2.2.1 (l.getD k nd0).2.2.2]
theorem nodeV_bd {env vals : List Int} {o u a b M : Int} (hM : 1000 ≤ M) (he : ∀ x ∈ env, 0 ≤ x ∧ x ≤ 1000) (hv : ∀ x ∈ vals, 0 ≤ x ∧ x ≤ M) : 0 ≤ nodeV env vals o u a b ∧ nodeV env vals o u a b ≤ M + 1 := by
  have e1 := getD_all he (by omega) u.toNat
  have v1 := getD_all hv (by omega) a.toNat
  have v2 := getD_all hv (by omega) b.toNat
  unfold nodeV
  split
  · omega
  · split
    · omega
    · split
      · omega
      · split
        · split <;> omega
        · omega
theorem avR_bd {env : List Int} (he : ∀ x ∈ env, 0 ≤ x ∧ x ≤ 1000) (l : List Nd) : ∀ k : Nat, ∀ x ∈ avR env l k, 0 ≤ x ∧ x ≤ 1000 + (k : Int)
  | 0, x, hx => by cases hx
  | k + 1, x, hx => by
    rw [avR, List.mem_append] at hx
    rcases hx with hx | hx
    · have := avR_bd he l k x hx
      omega
    · simp only [List.mem_singleton] at hx
      have := nodeV_bd (M := 1000 + (k : Int)) (o := (l.getD k nd0).1) (u := (l.getD k nd0).2.1) (a := (l.getD k nd0).2.2.1) (b := (l.getD k nd0).2.2.2) (by omega) he (avR_bd he l k)
      rw [← hx] at this
      omega
/-- what ArenaEval answers -/
def aevR (l : List Nd) (n : Nat) (x : Int) (env : List Int) : Option Int := if (arenaOkR l && idxR n [x] && envOk env) = true then some ((avR env l (x.toNat + 1)).getD x.toNat 0) else none
/-- the step of the machine's stack at a node -/
theorem nodeV_step {env vals : List Int} {o u a b : Int} {k : Nat} (h : ndOk (o, u, a, b) k = true) :
    Lv.step env (o, u) (((opsR a b).map fun x => vals.getD x.toNat 0).reverse) = some [nodeV env vals o u a b] := by
  rcases ndOk_cases h with ⟨rfl, rfl, rfl, rfl⟩ | ⟨rfl, h0, h1, rfl, rfl⟩ | ⟨rfl, rfl, rfl, h0, h1⟩ | ⟨ho, rfl, h0, h1, h2, h3⟩
  · simp [opsTo, opP, Lv.step, Lv.tkOk, nodeV]
  · simp [opsTo, opP, Lv.step, Lv.tkOk, nodeV, h0, h1]
  · have hb : ¬ b = -1 := by omega
    simp [opsTo, opP, Lv.step, Lv.tkOk, nodeV, hb]
  · have ha : ¬ a = -1 := by omega
    have hb : ¬ b = -1 := by omega
    rcases ho with rfl | rfl
    · simp [opsTo, opP, Lv.step, Lv.tkOk, nodeV, ha, hb]
    · simp [opsTo, opP, Lv.step, Lv.tkOk, nodeV, ha, hb]
      try (split <;> simp_all)
end Go.Proofs.YtfmhmnpmdjpmeaaDoor

namespace Go.Proofs.YtfmhmnpmdjpmeaaDoor
open Go.RowKit

theorem Mach.box {w : World} {B bm : Nat} {env st : List Int} (h : Mach w B bm env st) : bm < w.heap.size := by obtain ⟨_, _, _, _, hb, _⟩ := h; exact hb.lt
theorem stk_lt {w : World} {B bm g : Nat} {env st : List Int} (h : Mach w B bm env st) (hs : StkB w bm g) : g < w.heap.size := by
  obtain ⟨_, he, A, c, hblk, hown⟩ := h
  obtain ⟨v, h1, h2⟩ := hs
  rw [(hblk.cell 5).trans (mach_stack env _ he)] at h1
  injection h1 with h1
  subst h1
  exact (hown.lt g h2).2
/-- the row of v lies beside the machine -/
def Apart (w : World) (bm : Nat) (v : Value) : Prop := ∀ g, v.ownBlock = some g → g < w.heap.size ∧ g ≠ bm ∧ ¬ StkB w bm g
theorem Apart.keep {w w' : World} {bm : Nat} {v : Value} (h : Apart w bm v) (hk : KeepA bm w w') : Apart w' bm v := fun g hg => by
  obtain ⟨h1, h2, h3⟩ := h g hg
  exact ⟨Nat.lt_of_lt_of_le h1 hk.1, h2, (hk.2 g h1 h2 h3).2⟩
theorem own_keepA {w w' : World} {bm base n size : Nat} {e : TypeId} {v : Value} {xs : List Value} (h : w.ownsRow base e size v n xs) (ha : Apart w bm v) (hk : KeepA bm w w') : w'.ownsRow base e size v n xs := by
  refine ⟨h.1, ?_⟩
  rcases h.2 with hn | ⟨b, cap, cur, hv, h1, h2, h3⟩
  · exact .inl hn
  · obtain ⟨g1, g2, g3⟩ := ha b (by rw [hv]; rfl)
    exact .inr ⟨b, cap, cur, hv, h1, (hk.2 b g1 g2 g3).1.trans h2, h3⟩
theorem blk_keepA {w w' : World} {bm g : Nat} {t : TypeId} {cs : Array Value} (h : Blk w g t cs) (h1 : g ≠ bm) (h2 : ¬ StkB w bm g) (hk : KeepA bm w w') : Blk w' g t cs := (hk.2 g h.lt h1 h2).1.trans h
theorem stk_below {w w' : World} {bm g : Nat} (hm : bm < w.heap.size) (hb : Below w.heap.size w w') (h : StkB w' bm g) : StkB w bm g := by
  obtain ⟨v, h1, h2⟩ := h
  exact ⟨v, (hb.cell (p := ⟨bm, 5, none⟩) hm).symm.trans h1, h2⟩
theorem Apart.fresh {w w' : World} {B bm base n size : Nat} {env st : List Int} {e : TypeId} {v : Value} {xs : List Value} (hm : Mach w B bm env st) (hb : Below w.heap.size w w') (h : w'.ownsRow base e size v n xs) (hbase : w.heap.size ≤ base) : Apart w' bm v := fun g hg => by
  have h1 := h.lt g hg
  have h2 := hm.box
  refine ⟨h1.2, by omega, fun hs => ?_⟩
  have := stk_lt hm (stk_below h2 hb hs)
  omega
theorem Mach.below' {w w' : World} {B bm : Nat} {env st : List Int} (h : Mach w B bm env st) (hb : Below w.heap.size w w') : Mach w' B bm env st := by
  obtain ⟨hB, he, A, c, hblk, hown⟩ := h
  refine ⟨hB, he, A, c, hblk.below hb hblk.lt, ?_⟩
  refine ⟨hown.1, ?_⟩
  rcases hown.2 with hn | ⟨g, cap, cur, hv, hb1, hgg, rest⟩
  · exact .inl hn
  · exact .inr ⟨g, cap, cur, hv, hb1, (hb.block g (Array.getElem?_eq_some_iff.1 hgg).1).trans hgg, rest⟩
/-- a row beside the machine grows: the machine stays, and the row goes on beside it -/
theorem mach_grown {w w' : World} {B bm : Nat} {env st : List Int} {v v' : Value} (h : Mach w B bm env st) (hg : w.grownBy w' v.ownBlock) (ha : Apart w bm v) (hat : v'.ownBlock = v.ownBlock ∨ v'.ownBlock = some w.heap.size)
    (hlt : ∀ g, v'.ownBlock = some g → g < w'.heap.size) : Mach w' B bm env st ∧ Apart w' bm v' := by
  have hbx := h.box
  have hbm : some bm ≠ v.ownBlock := fun e => (ha bm e.symm).2.1 rfl
  obtain ⟨hB, he, A, c, hblk, hown⟩ := h
  have hblk' := hblk.grown hg hbm
  have hc := (hblk.cell 5).trans (mach_stack env _ he)
  have hc' := (hblk'.cell 5).trans (mach_stack env _ he)
  refine ⟨⟨hB, he, A, c, hblk', hown.kept hg ?_⟩, fun g hg' => ⟨hlt g hg', ?_, ?_⟩⟩
  · cases hv : (Value.slice A st.length c).ownBlock with
    | none => exact .inl rfl
    | some g => exact .inr fun e => (ha g e.symm).2.2 ⟨_, hc, hv⟩
  · rcases hat with e | e
    · rw [e] at hg'
      exact (ha g hg').2.1
    · rw [e] at hg'
      injection hg' with hg'
      omega
  · rintro ⟨u, hu, ho⟩
    rw [hc'] at hu
    injection hu with hu
    subst hu
    rcases hat with e | e
    · rw [e] at hg'
      exact (ha g hg').2.2 ⟨_, hc, ho⟩
    · rw [e] at hg'
      injection hg' with hg'
      have := (hown.lt g ho).2
      omega
end Go.Proofs.YtfmhmnpmdjpmeaaDoor

namespace Go.Proofs.YtfmhmnpmdjpmeaaDoor
open Go.RowKit

/-- an answer as the pair of its values -/
def evalV : Option Int → Value
  | some v => .tuple #[.int .i64 v, .bool true]
  | none => .tuple #[.int .i64 0, .bool false]

end Go.Proofs.YtfmhmnpmdjpmeaaDoor

namespace Go.Proofs.YtfmhmnpmdjpmeaaDoor
open Go.RowKit

theorem maxI' (a b : Int) : (if a < b then b else a) = max a b := by split <;> omega
theorem ownI_spot {w : World} {base g n c i : Nat} {l : List Int} (h : OwnI w base (some ⟨g, 0, none⟩) n c l) (hi : i < n) : w.cell? ⟨g, i, none⟩ = some (.int .i64 (l.getD i 0)) := by
  obtain ⟨b, off, hA, _, hc⟩ := (OwnI.reads h).2 (by omega)
  rcases h.2 with ⟨h0, _⟩ | ⟨g', cap, cur, hv, hb, hgg, _⟩
  · cases h0
  · injection hA with e2
    injection e2 with e2 e3
    subst e2; subst e3
    have := hc i hi
    rwa [Nat.zero_add] at this
theorem ownI_some {w : World} {base n : Nat} {v : Value} {xs : List Value} (h : w.ownsRow base 3 1 v (n + 1) xs) : ∃ g c, v = .slice (some ⟨g, 0, none⟩) (n + 1) c := by
  rcases h.2 with ⟨_, h⟩ | ⟨g, c, _, h, _⟩
  · omega
  · exact ⟨g, c, h⟩

set_option maxRecDepth 100000 in
set_option maxHeartbeats 8000000 in
theorem specAEval_any (w : World) (B : Nat) (A : Option Addr) (n c : Nat) (l : List Nd) (x : Int) (B2 : Nat) (A2 : Option Addr) (n2 c2 : Nat) (env : List Int) (hB : B ≤ w.heap.size) (hl : NodR w B A n l) (hn : n ≤ 1048576)
    (hB2 : B2 ≤ w.heap.size) (hR : IntR w B2 A2 n2 env) (hn2 : n2 ≤ 1048576) :
    Calls Tryd.prog 25 #[.slice A n c, .int .i64 x, .slice A2 n2 c2] w fun e w' => e = .returned (evalV (aevR l n x env)) ∧ Below w.heap.size w w' := by
  have HL := Lib.hid hl
  have HR := Lib.hid hR
  have hl0 := hl
  clear hl hR
  go_enter Tryd.func25, Tryd.ntmps25
  go_wp2_with fail
  refine (l08Has_any w B A n c l x hB hl0 hn).mono ?_
  rintro e w1 ⟨rfl, hb1⟩
  have HB1 := Lib.hid hb1
  have hs1 := hb1.size
  have hr1 := HR.out.below (hb1.mono hB2)
  clear hl0 hb1
  cases hok : (arenaOkR l && idxR n [x]) with
  | false =>
    have HZ : Hid (aevR l n x env = none) := by show _ = _; unfold aevR; rw [if_neg (by rw [hok]; simp)]
    clear hok hr1
    go_wp2
    go_ret2
    exact ⟨by rw [HZ.out]; rfl, HB1.out⟩
  | true =>
    have HOK := Lib.hid hok
    clear hok
    go_wp2_with fail
    refine (specEnv_any w1 B2 A2 n2 c2 env hr1 (by omega)).mono ?_
    rintro e w' ⟨rfl, rfl⟩
    cases he : envOk env with
    | false =>
      have HZ : Hid (aevR l n x env = none) := by show _ = _; unfold aevR; rw [if_neg (by rw [he]; simp)]
      clear he hr1
      go_wp2
      go_ret2
      exact ⟨by rw [HZ.out]; rfl, HB1.out⟩
    | true =>
      have HZ : Hid (aevR l n x env = some ((avR env l (x.toNat + 1)).getD x.toNat 0)) := by show _ = _; unfold aevR; rw [if_pos (by rw [he, HOK.out]; rfl)]
      obtain ⟨h5, hbd⟩ := envOk_mem he
      have hok := HOK.out
      rw [Bool.and_eq_true, idx_one, Bool.and_eq_true, decide_eq_true_eq, decide_eq_true_eq] at hok
      obtain ⟨ha, h0, h1⟩ := hok
      unfold arenaOkR at ha
      rw [Bool.and_eq_true, decide_eq_true_eq, decide_eq_true_eq, HL.out.1] at ha
      obtain ⟨hn3, hall⟩ := ha
      obtain ⟨i, rfl⟩ : ∃ i : Nat, x = i := ⟨x.toNat, by omega⟩
      rw [Int.toNat_natCast] at HZ
      have hin : i < n := by omega
      have HALL := Lib.hid hall
      have HBD := Lib.hid hbd
      have H5 := Lib.hid h5
      have HS0 : Hid (OwnI (w1.alloc (.cells #[] 3)) w.heap.size (some ⟨w1.heap.size, 0, none⟩) 0 0 (avR env l 0)) := World.ownsRow_made w1 #[] 0 hs1 (by simp [maxLen]) (by simp)
      have HB2 : Hid (Below w.heap.size w (w1.alloc (.cells #[] 3))) := HB1.out.alloc hs1 _
      obtain ⟨i0, hi, hz0, hz1, hz2⟩ := info_parts info_int
      clear hr1 he hbd h5 hall h0 h1 HOK HB1
      go_wp2
      go_loopw [8, 9] (fun v j wr => ∃ (k g c' : Nat), k ≤ i + 1 ∧ j = .int .i64 k ∧ v = .slice (some ⟨g, 0, none⟩) k c' ∧ Hid (OwnI wr w.heap.size (some ⟨g, 0, none⟩) k c' (avR env l k)) ∧ Hid (Below w.heap.size w wr)) (fun _ j _ => i + 1 - (intOf j).toNat)
      case atStart => exact ⟨0, w1.heap.size, 0, by omega, rfl, rfl, HS0.out, HB2.out⟩
      case round =>
        clear HS0 HB2
        obtain ⟨k, g, c', hk, rfl, rfl, HO, HB⟩ := hrel
        have hsr := HB.out.size
        have hgl : g < wr.heap.size := (HO.out.lt g rfl).2
        by_cases hki : k < i + 1
        · have hki' : (k : Int) ≤ i := by omega
          have hkn : k < n := by omega
          obtain ⟨b, off, rfl, hb, hc⟩ := HL.out.2 (by omega)
          obtain ⟨x1, x2, x3, x4⟩ := hc k hkn
          obtain ⟨t, ht⟩ : ∃ t, l.getD k nd0 = t := ⟨_, rfl⟩
          have hok := (HALL.out k hkn).1
          rw [ht] at x1 x2 x3 x4 hok
          obtain ⟨o, u, a, y⟩ := t
          have k1 := (HB.out.cell (p := ⟨b, off + k * 4, none⟩) (by show b < _; omega)).trans x1
          have k2 := (HB.out.cell (p := ⟨b, off + k * 4 + 1, none⟩) (by show b < _; omega)).trans x2
          have k3 := (HB.out.cell (p := ⟨b, off + k * 4 + 2, none⟩) (by show b < _; omega)).trans x3
          have k4 := (HB.out.cell (p := ⟨b, off + k * 4 + 3, none⟩) (by show b < _; omega)).trans x4
          have HV : Hid (avR env l (k + 1) = avR env l k ++ [nodeV env (avR env l k) o u a y]) := by show _ = _; rw [avR, ht]
          have HBV : Hid (∀ x ∈ avR env l k, 0 ≤ x ∧ x ≤ 1000 + (k : Int)) := avR_bd HBD.out l k
          obtain ⟨vals, hvals⟩ : ∃ vals, avR env l k = vals := ⟨_, rfl⟩
          have hsp : ∀ s, s < k → wr.cell? ⟨g, s, none⟩ = some (.int .i64 (vals.getD s 0)) := fun s hs => by rw [← hvals]; exact ownI_spot HO.out hs
          rw [hvals] at HV HBV
          have HVA : Hid (avR env l k = vals) := hvals
          have HGD : Hid (∀ s, 0 ≤ vals.getD s 0 ∧ vals.getD s 0 ≤ 1000 + (k : Int)) := fun s => getD_all HBV.out (by omega) s
          obtain ⟨Wx, hW⟩ : ∃ X, wr.alloc (.cells #[.int .i64 o, .int .i64 u, .int .i64 a, .int .i64 y] 72) = X := ⟨_, rfl⟩
          have hbx : Blk Wx wr.heap.size 72 #[.int .i64 o, .int .i64 u, .int .i64 a, .int .i64 y] := by rw [← hW]; exact Blk.made _ _ _
          have hbw : Below wr.heap.size wr Wx := by rw [← hW]; exact (Below.refl _ _).alloc (Nat.le_refl _) _
          have HBW := Lib.hid (HB.out.trans (hbw.mono hsr))
          have HOW : Hid (OwnI Wx w.heap.size (some ⟨g, 0, none⟩) k c' vals) := by show OwnI _ _ _ _ _ _; rw [← hvals]; exact own_below' HO.out hbw
          have q0 := hbx.cell 0
          have q1 := hbx.cell 1
          have q2 := hbx.cell 2
          have q3 := hbx.cell 3
          simp at q0 q1 q2 q3
          have hspW : ∀ s, s < k → Wx.cell? ⟨g, s, none⟩ = some (.int .i64 (vals.getD s 0)) := fun s hs => (hbw.cell (p := ⟨g, s, none⟩) hgl).trans (hsp s hs)
          have HSW := Lib.hid hspW
          have hcases := ndOk_cases hok
          clear hok ht hc x1 x2 x3 x4 hvals hsp hspW hbx hbw HO HB
          rcases hcases with ⟨rfl, rfl, rfl, rfl⟩ | ⟨rfl, hu0, hu5, rfl, rfl⟩ | ⟨rfl, rfl, rfl, hy0, hyk⟩ | ⟨ho, rfl, ha0, hak, hy0, hyk⟩
          · have HVV : Hid (nodeV env vals 0 0 (-1) (-1) = 0) := by
              rfl
            have hown := HOW.out
            have hsx : w.heap.size ≤ Wx.heap.size := HBW.out.size
            go_wp2_with (at_builtin; refine wpList_append_own _ rfl (.tmp 80) (.tmp 82) 40 rfl w.heap.size 3 i0 (.int .i64 0) 1 8 Tryd.underlying40 hi hz0 hz1 hz2 rfl (by decide) (.slice (some ⟨g, 0, none⟩) k c') k (vals.map (Value.int .i64)) rfl (World.ownsRow.alloc hown _) ⟨Wx.heap.size, 0, none⟩ 1 1 [.int .i64 (0)] rfl rfl (cell_one_new _ _ _) (fun u hu => by simp at hu; subst hu; rfl) (by unfold maxLen; omega) (by omega) (by simp; omega) ?_; intro v' w3 hown' hgrow _)
            obtain ⟨g3, c3, rfl⟩ := ownI_some hown'
            have HB3 : Hid (Below w.heap.size w w3) := (HBW.out.alloc hsx _).grown hgrow (by simp; omega) (fun k h => (hown.lt k h).1)
            have HO3 : Hid (OwnI w3 w.heap.size (some ⟨g3, 0, none⟩) (k + 1) c3 (avR env l (k + 1))) := by
              show OwnI _ _ _ _ _ _
              rw [HV.out, HVV.out]
              simpa [OwnI] using hown'
            clear hown hown' hgrow HOW HBW
            go_wp2
            go_roundw
            case rel => exact ⟨k + 1, g3, c3, by omega, by go_num, rfl, HO3.out, HB3.out⟩
            case measure => simp [intOf]; omega
          · obtain ⟨p, rfl⟩ : ∃ p : Nat, u = p := ⟨u.toNat, by omega⟩
            obtain ⟨be, oe, rfl, hbe, hce⟩ := HR.out.2 (by have := HR.out.1; have := H5.out; omega)
            have hn5 : n2 = 5 := by have := HR.out.1; have := H5.out; omega
            have hp2 : p < n2 := by omega
            have hp3 : (p : Int) < n2 := by omega
            have e1 : Wx.cell? ⟨be, oe + p, none⟩ = some (.int .i64 (env.getD p 0)) := (HBW.out.cell (p := ⟨be, oe + p, none⟩) (by show be < _; omega)).trans (hce p hp2)
            clear hce hn5
            have HVV : Hid (nodeV env vals 4 (p : Int) (-1) (-1) = env.getD p 0) := by
              rfl
            have hown := HOW.out
            have hsx : w.heap.size ≤ Wx.heap.size := HBW.out.size
            go_wp2_with (at_builtin; refine wpList_append_own _ rfl (.tmp 80) (.tmp 82) 40 rfl w.heap.size 3 i0 (.int .i64 0) 1 8 Tryd.underlying40 hi hz0 hz1 hz2 rfl (by decide) (.slice (some ⟨g, 0, none⟩) k c') k (vals.map (Value.int .i64)) rfl (World.ownsRow.alloc hown _) ⟨Wx.heap.size, 0, none⟩ 1 1 [.int .i64 (env.getD p 0)] rfl rfl (cell_one_new _ _ _) (fun u hu => by simp at hu; subst hu; rfl) (by unfold maxLen; omega) (by omega) (by simp; omega) ?_; intro v' w3 hown' hgrow _)
            obtain ⟨g3, c3, rfl⟩ := ownI_some hown'
            have HB3 : Hid (Below w.heap.size w w3) := (HBW.out.alloc hsx _).grown hgrow (by simp; omega) (fun k h => (hown.lt k h).1)
            have HO3 : Hid (OwnI w3 w.heap.size (some ⟨g3, 0, none⟩) (k + 1) c3 (avR env l (k + 1))) := by
              show OwnI _ _ _ _ _ _
              rw [HV.out, HVV.out]
              simpa [OwnI] using hown'
            clear hown hown' hgrow HOW HBW
            go_wp2
            go_roundw
            case rel => exact ⟨k + 1, g3, c3, by omega, by go_num, rfl, HO3.out, HB3.out⟩
            case measure => simp [intOf]; omega
          · obtain ⟨r, rfl⟩ : ∃ r : Nat, y = r := ⟨y.toNat, by omega⟩
            have hrk : r < k := by omega
            have e1 := HSW.out r hrk
            obtain ⟨vb, hvb⟩ : ∃ vb, vals.getD r 0 = vb := ⟨_, rfl⟩
            have hvl := HGD.out r
            rw [hvb] at e1 hvl
            have hv0 := hvl.1
            have hv1 := hvl.2
            have HVB := Lib.hid hvb
            clear hvl hvb
            have HVV : Hid (nodeV env vals 1 0 (-1) ((r : Nat) : Int) = vb + 1) := by
              show _ = _
              rw [← HVB.out]
              rfl
            have hown := HOW.out
            have hsx : w.heap.size ≤ Wx.heap.size := HBW.out.size
            go_wp2_with (at_builtin; refine wpList_append_own _ rfl (.tmp 80) (.tmp 82) 40 rfl w.heap.size 3 i0 (.int .i64 0) 1 8 Tryd.underlying40 hi hz0 hz1 hz2 rfl (by decide) (.slice (some ⟨g, 0, none⟩) k c') k (vals.map (Value.int .i64)) rfl (World.ownsRow.alloc hown _) ⟨Wx.heap.size, 0, none⟩ 1 1 [.int .i64 (vb + 1)] rfl rfl (cell_one_new _ _ _) (fun u hu => by simp at hu; subst hu; rfl) (by unfold maxLen; omega) (by omega) (by simp; omega) ?_; intro v' w3 hown' hgrow _)
            obtain ⟨g3, c3, rfl⟩ := ownI_some hown'
            have HB3 : Hid (Below w.heap.size w w3) := (HBW.out.alloc hsx _).grown hgrow (by simp; omega) (fun k h => (hown.lt k h).1)
            have HO3 : Hid (OwnI w3 w.heap.size (some ⟨g3, 0, none⟩) (k + 1) c3 (avR env l (k + 1))) := by
              show OwnI _ _ _ _ _ _
              rw [HV.out, HVV.out]
              simpa [OwnI] using hown'
            clear hown hown' hgrow HOW HBW
            go_wp2
            go_roundw
            case rel => exact ⟨k + 1, g3, c3, by omega, by go_num, rfl, HO3.out, HB3.out⟩
            case measure => simp [intOf]; omega
          · obtain ⟨r, rfl⟩ : ∃ r : Nat, y = r := ⟨y.toNat, by omega⟩
            obtain ⟨s, rfl⟩ : ∃ s : Nat, a = s := ⟨a.toNat, by omega⟩
            have hrk : r < k := by omega
            have hsk : s < k := by omega
            have e1 := HSW.out r hrk
            have e2 := HSW.out s hsk
            obtain ⟨vb, hvb⟩ : ∃ vb, vals.getD r 0 = vb := ⟨_, rfl⟩
            obtain ⟨va, hva⟩ : ∃ va, vals.getD s 0 = va := ⟨_, rfl⟩
            have hvl := HGD.out r
            rw [hvb] at e1 hvl
            rw [hva] at e2
            have hv0 := hvl.1
            have HVB := Lib.hid hvb
            have HVA2 := Lib.hid hva
            clear hvl hvb hva
            rcases ho with rfl | rfl
            · have HVV : Hid (nodeV env vals 2 0 (s : Int) (r : Int) = max va vb) := by
                show _ = _
                rw [← HVB.out, ← HVA2.out]
                rfl
              have hown := HOW.out
              have hsx : w.heap.size ≤ Wx.heap.size := HBW.out.size
              go_wp2_with fail
              refine region_tail 11 (by kernel_rfl) (by kernel_rfl) ?_
              simp only [List.take_succ_cons, List.take_zero, List.drop_succ_cons, List.drop_zero]
              repeat still_step
              refine wpStill_nil ?_
              rw [maxI']
              go_wp2_with (at_builtin; refine wpList_append_own _ rfl (.tmp 80) (.tmp 82) 40 rfl w.heap.size 3 i0 (.int .i64 0) 1 8 Tryd.underlying40 hi hz0 hz1 hz2 rfl (by decide) (.slice (some ⟨g, 0, none⟩) k c') k (vals.map (Value.int .i64)) rfl (World.ownsRow.alloc hown _) ⟨Wx.heap.size, 0, none⟩ 1 1 [.int .i64 (max va vb)] rfl rfl (cell_one_new _ _ _) (fun u hu => by simp at hu; subst hu; rfl) (by unfold maxLen; omega) (by omega) (by simp; omega) ?_; intro v' w3 hown' hgrow _)
              obtain ⟨g3, c3, rfl⟩ := ownI_some hown'
              have HB3 : Hid (Below w.heap.size w w3) := (HBW.out.alloc hsx _).drew.grown hgrow (by simp; omega) (fun k h => (hown.lt k h).1)
              have HO3 : Hid (OwnI w3 w.heap.size (some ⟨g3, 0, none⟩) (k + 1) c3 (avR env l (k + 1))) := by
                show OwnI _ _ _ _ _ _
                rw [HV.out, HVV.out]
                simpa [OwnI] using hown'
              clear hown hown' hgrow HOW HBW
              go_wp2
              go_roundw
              case rel => exact ⟨k + 1, g3, c3, by omega, by go_num, rfl, HO3.out, HB3.out⟩
              case measure => simp [intOf]; omega
            · by_cases hz : vb = 0
              · have d0 : decide (0 < vb) = false := decide_eq_false (by omega)
                have HZB := Lib.hid hz
                clear hz hv0
                have HVV : Hid (nodeV env vals 3 0 (s : Int) (r : Int) = 0) := by
                  show _ = _
                  unfold nodeV
                  rw [if_neg (by decide), if_neg (by decide), if_neg (by decide), if_pos rfl, Int.toNat_natCast, HVB.out, if_pos HZB.out]
                have hown := HOW.out
                have hsx : w.heap.size ≤ Wx.heap.size := HBW.out.size
                go_wp2_with (at_builtin; refine wpList_append_own _ rfl (.tmp 80) (.tmp 82) 40 rfl w.heap.size 3 i0 (.int .i64 0) 1 8 Tryd.underlying40 hi hz0 hz1 hz2 rfl (by decide) (.slice (some ⟨g, 0, none⟩) k c') k (vals.map (Value.int .i64)) rfl (World.ownsRow.alloc hown _) ⟨Wx.heap.size, 0, none⟩ 1 1 [.int .i64 (0)] rfl rfl (cell_one_new _ _ _) (fun u hu => by simp at hu; subst hu; rfl) (by unfold maxLen; omega) (by omega) (by simp; omega) ?_; intro v' w3 hown' hgrow _)
                obtain ⟨g3, c3, rfl⟩ := ownI_some hown'
                have HB3 : Hid (Below w.heap.size w w3) := (HBW.out.alloc hsx _).grown hgrow (by simp; omega) (fun k h => (hown.lt k h).1)
                have HO3 : Hid (OwnI w3 w.heap.size (some ⟨g3, 0, none⟩) (k + 1) c3 (avR env l (k + 1))) := by
                  show OwnI _ _ _ _ _ _
                  rw [HV.out, HVV.out]
                  simpa [OwnI] using hown'
                clear hown hown' hgrow HOW HBW
                go_wp2
                go_roundw
                case rel => exact ⟨k + 1, g3, c3, by omega, by go_num, rfl, HO3.out, HB3.out⟩
                case measure => simp [intOf]; omega
              · have d0 : decide (0 < vb) = true := decide_eq_true (by omega)
                have HZB := Lib.hid hz
                clear hz hv0
                have HVV : Hid (nodeV env vals 3 0 (s : Int) (r : Int) = max va vb) := by
                  show _ = _
                  unfold nodeV
                  rw [if_neg (by decide), if_neg (by decide), if_neg (by decide), if_pos rfl, Int.toNat_natCast, Int.toNat_natCast, HVB.out, HVA2.out, if_neg HZB.out]
                have hown := HOW.out
                have hsx : w.heap.size ≤ Wx.heap.size := HBW.out.size
                go_wp2_with fail
                refine region_tail 11 (by kernel_rfl) (by kernel_rfl) ?_
                simp only [List.take_succ_cons, List.take_zero, List.drop_succ_cons, List.drop_zero]
                repeat still_step
                refine wpStill_nil ?_
                rw [maxI']
                go_wp2_with (at_builtin; refine wpList_append_own _ rfl (.tmp 80) (.tmp 82) 40 rfl w.heap.size 3 i0 (.int .i64 0) 1 8 Tryd.underlying40 hi hz0 hz1 hz2 rfl (by decide) (.slice (some ⟨g, 0, none⟩) k c') k (vals.map (Value.int .i64)) rfl (World.ownsRow.alloc hown _) ⟨Wx.heap.size, 0, none⟩ 1 1 [.int .i64 (max va vb)] rfl rfl (cell_one_new _ _ _) (fun u hu => by simp at hu; subst hu; rfl) (by unfold maxLen; omega) (by omega) (by simp; omega) ?_; intro v' w3 hown' hgrow _)
                obtain ⟨g3, c3, rfl⟩ := ownI_some hown'
                have HB3 : Hid (Below w.heap.size w w3) := (HBW.out.alloc hsx _).drew.grown hgrow (by simp; omega) (fun k h => (hown.lt k h).1)
                have HO3 : Hid (OwnI w3 w.heap.size (some ⟨g3, 0, none⟩) (k + 1) c3 (avR env l (k + 1))) := by
                  show OwnI _ _ _ _ _ _
                  rw [HV.out, HVV.out]
                  simpa [OwnI] using hown'
                clear hown hown' hgrow HOW HBW
                go_wp2
                go_roundw
                case rel => exact ⟨k + 1, g3, c3, by omega, by go_num, rfl, HO3.out, HB3.out⟩
                case measure => simp [intOf]; omega
        · obtain rfl : k = i + 1 := by omega
          have hki' : ¬ ((i + 1 : Nat) : Int) ≤ i := by omega
          have e1 : wr.cell? ⟨g, i, none⟩ = some (.int .i64 ((avR env l (i + 1)).getD i 0)) := ownI_spot HO.out (by omega)
          have hib : (i : Int) < ((i + 1 : Nat) : Int) := by omega
          go_wp2
          go_ret2
          exact ⟨by rw [HZ.out]; rfl, HB.out⟩
end Go.Proofs.YtfmhmnpmdjpmeaaDoor
