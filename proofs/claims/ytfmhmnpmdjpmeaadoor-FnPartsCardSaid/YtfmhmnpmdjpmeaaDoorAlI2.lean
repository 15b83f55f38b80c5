/- ArenaLevel of the program. -/
/- ArenaLevel of the program: the whole. -/
import Derived.Test.YtfmhmnpmdjpmeaaDoorKpMath
import Derived.Test.YtfmhmnpmdjpmeaaDoorJoin
import Derived.Test.YtfmhmnpmdjpmeaaDoorNdKpI
import Derived.Laws.AppendOwnNone
import Derived.Test.YtfmhmnpmdjpmeaaDoorNdPtI

namespace Go.Proofs.YtfmhmnpmdjpmeaaDoor
open Go.RowKit

theorem info_tks : (Tryd.prog.info? 30).map (fun i => (i.zero, i.size, i.bytes)) = some (some (.slice none 0 0), 1, 24) := by kernel_rfl
/-- a row of rows of tokens, all the call's own -/
def PileN (w : World) (base : Nat) (A : Option Addr) (D c : Nat) (bs : List Tks) : Prop :=
  bs.length = D ∧ ∃ vals, w.ownsRow base 30 1 (.slice A D c) D vals ∧ ∀ i, i < D → ∃ Ai ci, vals[i]? = some (.slice Ai (bs.getD i []).length ci) ∧ OwnT w base Ai (bs.getD i []).length ci (bs.getD i [])
theorem PileN.below {w w' : World} {base D c : Nat} {A : Option Addr} {bs : List Tks} (h : PileN w base A D c bs) (hb : Below w.heap.size w w') : PileN w' base A D c bs := by
  obtain ⟨h1, vals, h2, h3⟩ := h
  exact ⟨h1, vals, own_below' h2 hb, fun i hi => by
    obtain ⟨Ai, ci, e1, e2⟩ := h3 i hi
    exact ⟨Ai, ci, e1, own_below' e2 hb⟩⟩
theorem PileN.at {w : World} {base D c i : Nat} {A : Option Addr} {bs : List Tks} (h : PileN w base A D c bs) (hi : i < D) : ∃ g Ai ci, A = some ⟨g, 0, none⟩ ∧ g < w.heap.size ∧ w.cell? ⟨g, i, none⟩ = some (.slice Ai (bs.getD i []).length ci) ∧ OwnT w base Ai (bs.getD i []).length ci (bs.getD i []) := by
  obtain ⟨_, vals, h2, h3⟩ := h
  obtain ⟨Ai, ci, e1, e2⟩ := h3 i hi
  obtain ⟨g, rfl⟩ : ∃ g, A = some ⟨g, 0, none⟩ := by
    rcases h2.2 with ⟨_, h⟩ | ⟨g, cap', _, h, _⟩
    · omega
    · injection h with h1; exact ⟨g, h1⟩
  refine ⟨g, Ai, ci, rfl, (h2.lt g rfl).2, ?_, e2⟩
  have := h2.cells (g := g) rfl i _ e1
  rwa [own_adds] at this
theorem rows_apart3 {w : World} {b1 b2 s1 s2 n1 n2 : Nat} {t1 t2 : TypeId} {v1 v2 : Value} {x1 x2 : List Value} (h1 : w.ownsRow b1 t1 s1 v1 n1 x1) (h2 : w.ownsRow b2 t2 s2 v2 n2 x2) (hne : t1 ≠ t2) : v1.ownBlock = none ∨ v1.ownBlock ≠ v2.ownBlock := by
  cases h : v1.ownBlock with
  | none => exact .inl rfl
  | some b =>
    right
    obtain ⟨cs, hcs⟩ := own_blk h1 b h
    intro e
    exact own_apart h2 hcs (fun x => hne x.symm) e.symm
theorem PileN.push {w w' : World} {base D c : Nat} {A : Option Addr} {bs : List Tks} {Ax : Option Addr} {cx : Nat} {x : Tks} {vals : List Value} (hl : bs.length = D) (h2 : w.ownsRow base 30 1 (.slice A D c) D vals)
    (h3 : ∀ i, i < D → ∃ Ai ci, vals[i]? = some (.slice Ai (bs.getD i []).length ci) ∧ OwnT w base Ai (bs.getD i []).length ci (bs.getD i [])) (hx : OwnT w base Ax x.length cx x) (hg : w.grownBy w' (Value.slice A D c).ownBlock) {A' : Option Addr} {c' : Nat}
    (ho : w'.ownsRow base 30 1 (.slice A' (D + 1) c') (D + 1) (vals ++ [.slice Ax x.length cx])) : PileN w' base A' (D + 1) c' (bs ++ [x]) := by
  have hvl : vals.length = D := by simpa using h2.1
  refine ⟨by simp [hl], _, ho, fun i hi => ?_⟩
  by_cases e : i = D
  · subst e
    refine ⟨Ax, cx, ?_, ?_⟩
    · rw [List.getElem?_append_right (by omega), hvl, last_getD bs x [] i hl]
      simp
    · rw [last_getD bs x [] i hl]
      exact hx.kept hg (rows_apart3 hx h2 (by decide))
  · obtain ⟨Ai, ci, e1, e2⟩ := h3 i (by omega)
    have hb : (bs ++ [x]).getD i [] = bs.getD i [] := by
      rw [List.getD_eq_getElem?_getD, List.getElem?_append_left (by omega), ← List.getD_eq_getElem?_getD]
    refine ⟨Ai, ci, ?_, ?_⟩
    · rw [List.getElem?_append_left (by omega), hb]
      exact e1
    · rw [hb]
      exact e2.kept hg (rows_apart3 e2 h2 (by decide))
theorem tks_news {w : World} {base g n c : Nat} {l : Tks} (h : OwnT w base (some ⟨g, 0, none⟩) n c l) : ∀ j u, (tokCells l)[j]? = some u → w.cell? ((⟨g, 0, none⟩ : Addr).add j) = some u := fun j u hu => World.ownsRow.cells h (g := g) rfl j u hu
theorem tks_nil {w : World} {base n c : Nat} {A : Option Addr} {xs : List Value} (h : w.ownsRow base 70 2 (.slice A n c) n xs) : (A = none ∧ n = 0 ∧ c = 0) ∨ ∃ g, A = some ⟨g, 0, none⟩ := by
  rcases h.2 with ⟨e, h0⟩ | ⟨g, cap, _, h0, _⟩
  · injection e with e1 e2 e3
    exact .inl ⟨e1, h0, e3⟩
  · injection h0 with e1
    exact .inr ⟨g, e1⟩
theorem tks_more {w : World} {base n : Nat} {v : Value} {xs : List Value} (h : w.ownsRow base 70 2 v n xs) : ∃ A c, v = .slice A n c := by
  rcases h.2 with ⟨e, h0⟩ | ⟨g, cap, _, h0, _⟩
  · exact ⟨none, 0, by rw [e, h0]⟩
  · exact ⟨_, _, h0⟩
def opT (vals : List Tks) (os : List Int) : Tks := os.flatMap fun z => vals.getD z.toNat []
theorem opT_step (vals : List Tks) {os : List Int} {q : Nat} (hq : q < os.length) : opT vals (os.take (q + 1)) = opT vals (os.take q) ++ vals.getD (os.getD q 0).toNat [] := by
  have ht : os.take (q + 1) = os.take q ++ [os.getD q 0] := by
    rw [List.take_add_one, List.getElem?_eq_getElem hq]
    simp [List.getD_eq_getElem?_getD, hq]
  unfold opT
  rw [ht, List.flatMap_append]
  simp
theorem opsR_in' {o u a b : Int} {k : Nat} (h : ndOk (o, u, a, b) k = true) : ∀ z ∈ opsR a b, 0 ≤ z ∧ z < k := by
  have h1 := ndOk_ops h
  have hp : ∀ x : Int, (x = -1 ∨ (0 ≤ x ∧ x < k)) → ∀ z ∈ opP x, 0 ≤ z ∧ z < k := by
    intro x hx z hz
    unfold opP at hz
    split at hz
    · cases hz
    · simp at hz
      omega
  intro z hz
  have hz' : z ∈ opP a ++ opP b := hz
  rw [List.mem_append] at hz'
  rcases hz' with hz' | hz'
  · exact hp a h1.1 z hz'
  · exact hp b h1.2 z hz'

set_option maxRecDepth 100000 in
set_option maxHeartbeats 8000000 in
theorem nodLevel_any (w : World) (base : Nat) (o u a b : Int) (Av : Option Addr) (D cv : Nat) (bs : List Tks) (T : TypeId) (pv : Value) (hG : 0 < w.heap.size) (hE : ErrAt w T pv) (hok : ndOk (o, u, a, b) D = true) (hP : PileN w base Av D cv bs) (hbs : ∀ i, (bs.getD i []).length ≤ 24) :
    Calls Tryd.prog 64 #[.agg #[.int .i64 o, .int .i64 u, .int .i64 a, .int .i64 b], .slice Av D cv] w fun e w' => ∃ A c, e = .returned (.slice A (lvlV bs o u a b).length c) ∧ OwnT w' w.heap.size A (lvlV bs o u a b).length c (lvlV bs o u a b) ∧ Below w.heap.size w w' := by
  obtain ⟨Wx, hW⟩ : ∃ X, w.alloc (.cells #[.int .i64 o, .int .i64 u, .int .i64 a, .int .i64 b] 72) = X := ⟨_, rfl⟩
  have hbx : Blk Wx w.heap.size 72 #[.int .i64 o, .int .i64 u, .int .i64 a, .int .i64 b] := by rw [← hW]; exact Blk.made _ _ _
  have hbw : Below w.heap.size w Wx := by rw [← hW]; exact (Below.refl _ _).alloc (Nat.le_refl _) _
  have hE := hE.below hbw hG
  have q0 := hbx.cell 0
  have q1 := hbx.cell 1
  have q2 := hbx.cell 2
  have q3 := hbx.cell 3
  simp at q0 q1 q2 q3
  obtain ⟨os, hos⟩ : ∃ os, opsR a b = os := ⟨_, rfl⟩
  obtain ⟨M, hM⟩ : ∃ M, os.length = M := ⟨_, rfl⟩
  have hM2 : M ≤ 2 := by rw [← hM, ← hos]; exact opsTo_len a b 2
  have hC := operands_any Wx o u a b
  simp only [hos, hM] at hC
  have HC := Lib.hid hC
  have HML := Lib.hid hM
  have HOPS : Hid (∀ z ∈ os, 0 ≤ z ∧ z < D) := by rw [← hos]; exact opsR_in' hok
  have HT : Hid (lvlV bs o u a b = (ifR (opT bs os ++ [(o, u)])).getD []) := by
    show _ = _
    unfold lvlV lvlT opT ifR
    rw [hos]
    split <;> rfl
  have HP := Lib.hid hP
  have HBS := Lib.hid hbs
  have HBX := Lib.hid hbx
  have HBW := Lib.hid hbw
  have HE := Lib.hid hE
  have hlx : w.heap.size < Wx.heap.size := hbx.lt
  obtain ⟨i0, hi, hz0, hz1, hz2⟩ := info_parts info_tok
  clear hok hP hbs hbx hbw hE hC hM hos
  go_enter Tryd.func64, Tryd.ntmps64
  go_wp2_with fail
  refine HC.out.mono ?_
  rintro e w4 ⟨A3, c3, rfl, ho4, hb4⟩
  have HO4 := Lib.hid ho4
  have HB4 := Lib.hid (HBW.out.trans (hb4.mono (by omega)))
  have HBX4 : Hid (Blk w4 w.heap.size 72 #[.int .i64 o, .int .i64 u, .int .i64 a, .int .i64 b]) := HBX.out.below hb4 hlx
  have HE4 : Hid (ErrAt w4 T pv) := HE.out.below hb4 (by omega)
  have hl4 : w.heap.size < w4.heap.size := Nat.lt_of_lt_of_le hlx hb4.size
  have HS0 : Hid (OwnT w4 w4.heap.size none 0 0 (opT bs (os.take 0))) := World.ownsRow_nil _ _ _ _
  clear ho4 hb4 HC q0 q1 q2 q3 hW HBX
  go_wp2
  go_loopw [5, 13] (fun v j wr => ∃ (q L : Nat) (At : Option Addr) (ct : Nat), q ≤ M ∧ j = .int .i64 q ∧ v = .slice At L ct ∧ L ≤ q * 24 ∧ Hid ((opT bs (os.take q)).length = L) ∧ Hid (OwnT wr w4.heap.size At L ct (opT bs (os.take q))) ∧ Hid (Below w4.heap.size w4 wr)) (fun _ j _ => M - (intOf j).toNat)
  case atStart => exact ⟨0, 0, none, 0, by omega, rfl, rfl, by omega, rfl, HS0.out, Below.refl _ _⟩
  case round =>
    clear HS0
    obtain ⟨q, L, At, ct, hq, rfl, rfl, hLq, HL, HO, HB⟩ := hrel
    have hsr := HB.out.size
    by_cases hqM : q < M
    · have hoo := own_below' HO4.out HB.out
      obtain ⟨b5, o5, rfl, hb5, hc5⟩ := (OwnI.reads hoo).2 (by omega)
      have d1 := hc5 q hqM
      obtain ⟨z, hz⟩ : ∃ z, os.getD q 0 = z := ⟨_, rfl⟩
      rw [hz] at d1
      have hmem : z ∈ os := by
        rw [← hz, List.getD_eq_getElem?_getD, List.getElem?_eq_getElem (by rw [HML.out]; exact hqM)]
        simp
      have hzb := HOPS.out z hmem
      obtain ⟨s, rfl⟩ : ∃ s : Nat, z = s := ⟨z.toNat, by omega⟩
      have hsk : s < D := by omega
      have hsk' : (s : Int) < D := by omega
      have HST : Hid (opT bs (os.take (q + 1)) = opT bs (os.take q) ++ bs.getD s []) := by
        show _ = _
        rw [opT_step bs (by rw [HML.out]; exact hqM), hz, Int.toNat_natCast]
      obtain ⟨gp, Ai, ci, rfl, hgp, hcp, hop⟩ := (HP.out.below ((HB4.out.trans (HB.out.mono (by omega))))).at hsk
      have hlen := HBS.out s
      obtain ⟨S, hS⟩ : ∃ S, (bs.getD s []).length = S := ⟨_, rfl⟩
      rw [hS] at hcp hop hlen
      have HSS := Lib.hid hS
      have hown := HO.out
      clear hc5 hz hmem hzb hoo hS
      rcases tks_nil hop with ⟨rfl, rfl, rfl⟩ | ⟨g7, rfl⟩
      · have HE0 : Hid (bs.getD s [] = []) := List.length_eq_zero_iff.1 HSS.out
        clear hop
        go_wp2_with (at_builtin; refine wpList_append_own_none rfl (.tmp 17) (.tmp 21) 30 rfl w4.heap.size 70 i0 2 Tryd.underlying30 hi (.slice At L ct) L (tokCells (opT bs (os.take q))) rfl hown rfl ?_)
        have HO2 : Hid (OwnT wr w4.heap.size At L ct (opT bs (os.take (q + 1)))) := by
          show OwnT _ _ _ _ _ _
          rw [HST.out, HE0.out, List.append_nil]
          exact hown
        have HL2 : Hid ((opT bs (os.take (q + 1))).length = L) := by
          show _ = _
          rw [HST.out, HE0.out, List.append_nil]
          exact HL.out
        clear hown HO HL
        go_wp2
        go_roundw
        case rel => exact ⟨q + 1, L, At, ct, by omega, by go_num, rfl, by omega, HL2.out, HO2.out, HB.out⟩
        case measure => simp [intOf]; omega
      · have hnews := tks_news hop
        have hnl : (tokCells (bs.getD s [])).length = S * 2 := by rw [tokCells_len, HSS.out]
        clear hop
        go_wp2_with (at_builtin; refine wpList_append_own _ rfl (.tmp 17) (.tmp 21) 30 rfl w4.heap.size 70 i0 (.agg #[.int .i64 0, .int .i64 0]) 2 16 Tryd.underlying30 hi hz0 hz1 hz2 rfl (by decide) (.slice At L ct) L (tokCells (opT bs (os.take q))) rfl hown ⟨g7, 0, none⟩ S ci (tokCells (bs.getD s [])) rfl hnl hnews (tokCells_one _) (by unfold maxLen; omega) (by omega) (by omega) ?_; intro v' w5 hown' hgrow _)
        obtain ⟨A5, c5, rfl⟩ := tks_more hown'
        have HO2 : Hid (OwnT w5 w4.heap.size A5 (L + S) c5 (opT bs (os.take (q + 1)))) := by
          show World.ownsRow _ _ _ _ _ _ _
          rw [HST.out, tokCells_append]
          exact hown'
        have HL2 : Hid ((opT bs (os.take (q + 1))).length = L + S) := by
          show _ = _
          rw [HST.out, List.length_append, HL.out, HSS.out]
        have HB2 : Hid (Below w4.heap.size w4 w5) := HB.out.grown hgrow (by omega) (fun k h => (hown.lt k h).1)
        clear hown hown' hgrow HO HL HB hnews hnl
        obtain ⟨L2, hL2⟩ : ∃ L2, L + S = L2 := ⟨_, rfl⟩
        rw [hL2] at HO2 HL2
        have hL3 : L2 ≤ (q + 1) * 24 := by omega
        have HLE := Lib.hid hL2
        clear hL2
        go_wp2
        go_roundw
        case rel => exact ⟨q + 1, L2, A5, c5, by omega, by go_num, by rw [HLE.out], hL3, HL2.out, HO2.out, HB2.out⟩
        case measure => simp [intOf]; omega
    · obtain rfl : q = M := by omega
      clear hqM
      have hbx := HBX4.out.below HB.out hl4
      have j0 := hbx.cell 0
      have j1 := hbx.cell 1
      have j2 := hbx.cell 2
      have j3 := hbx.cell 3
      simp at j0 j1 j2 j3
      rw [List.take_of_length_le (by rw [HML.out]; exact Nat.le_refl _)] at HO HL
      have hLb : L ≤ 48 := by omega
      clear hbx
      go_wp2_with fail
      refine (tokOf_any wr o u a b).mono ?_
      rintro e w5 ⟨rfl, hb5⟩
      have hown := own_below' HO.out hb5
      have HB5 := Lib.hid (HB.out.trans (hb5.mono hsr))
      have hs5 : w4.heap.size ≤ w5.heap.size := HB5.out.size
      have HOS := Lib.hid hown
      clear hb5 HB HO j0 j1 j2 j3
      go_wp2_with (at_builtin; refine wpList_append_own _ rfl (.tmp 25) (.tmp 28) 30 rfl w4.heap.size 70 i0 (.agg #[.int .i64 0, .int .i64 0]) 2 16 Tryd.underlying30 hi hz0 hz1 hz2 rfl (by decide) (.slice At L ct) L (tokCells (opT bs os)) rfl (World.ownsRow.alloc hown _) ⟨w5.heap.size, 0, none⟩ 1 1 (tokCells [(o, u)]) rfl rfl (Blk.tokA2 w5 o u) (tokCells_one _) (by unfold maxLen; omega) (by omega) (by simp; omega) ?_; intro v' w6 hown' hgrow _; obtain ⟨A6, c6, rfl⟩ := tks_more hown')
      have ho6 : OwnT w6 w4.heap.size A6 (L + 1) c6 (opT bs os ++ [(o, u)]) := by
        show World.ownsRow _ _ _ _ _ _ _
        rw [tokCells_append]
        exact hown'
      have hb6 : Below w4.heap.size w4 w6 := (HB5.out.alloc hs5 _).grown hgrow (by simp; omega) (fun k h => (HOS.out.lt k h).1)
      have HB6 := Lib.hid hb6
      have hs6 := hb6.size
      have hE6 : ErrAt w6 T pv := HE4.out.below hb6 (by omega)
      refine (checked_any w6 w4.heap.size A6 (L + 1) c6 (opT bs os ++ [(o, u)]) T pv (by omega) (by omega) ho6 hE6).mono ?_
      rintro e w7 ⟨⟨A7, c7, rfl, ho7⟩, hb7⟩
      have HO7 : Hid (OwnT w7 w.heap.size A7 (lvlV bs o u a b).length c7 (lvlV bs o u a b)) := by
        show OwnT _ _ _ _ _ _
        rw [HT.out]
        exact own_base ho7 (by omega)
      have HB7 : Hid (Below w.heap.size w w7) := HB4.out.trans ((HB6.out.mono (by omega)).trans (hb7.mono (by omega)))
      clear ho7 hb7 ho6 hb6 hown' hgrow hE6
      go_wp2
      go_ret
      refine ⟨A7, c7, ?_, HO7.out, HB7.out⟩
      rw [HT.out]
      rfl
end Go.Proofs.YtfmhmnpmdjpmeaaDoor

namespace Go.Proofs.YtfmhmnpmdjpmeaaDoor
open Go.RowKit

theorem lvR_small (l : List Nd) : ∀ k, ∀ x ∈ lvR l k, x.length ≤ 24
  | 0, x, hx => by cases hx
  | k + 1, x, hx => by
    rw [lvR, List.mem_append] at hx
    rcases hx with hx | hx
    · exact lvR_small l k x hx
    · rw [List.mem_singleton] at hx
      subst hx
      unfold lvlV
      split
      · rename_i h
        exact ((lvlOk_iff _).1 h).2.1
      · simp
theorem lvR_bd (l : List Nd) (k i : Nat) : ((lvR l k).getD i []).length ≤ 24 := by
  rw [List.getD_eq_getElem?_getD]
  by_cases hi : i < (lvR l k).length
  · rw [List.getElem?_eq_getElem hi]
    exact lvR_small l k _ (List.getElem_mem hi)
  · rw [List.getElem?_eq_none (by omega)]
    simp
theorem pile_some {w : World} {base n : Nat} {v : Value} {xs : List Value} (h : w.ownsRow base 30 1 v (n + 1) xs) : ∃ g c, v = .slice (some ⟨g, 0, none⟩) (n + 1) c := by
  rcases h.2 with ⟨_, h⟩ | ⟨g, c, _, h, _⟩
  · omega
  · exact ⟨g, c, h⟩
theorem ownN_cap' {w : World} {base n c : Nat} {A : Option Addr} {l : List Nd} (h : OwnN w base A n c l) : n ≤ c := by
  rcases h.2 with ⟨e, h0⟩ | ⟨g, cap, cur, hv, _, _, h1, _⟩
  · omega
  · injection hv with _ _ h3
    omega

set_option maxRecDepth 100000 in
set_option maxHeartbeats 8000000 in
theorem implALevel_any (w : World) (B : Nat) (A : Option Addr) (n c : Nat) (l : List Nd) (x : Int) (T : TypeId) (pv : Value) (h0G : 0 < B) (hB : B ≤ w.heap.size) (hl : NodR w B A n l) (hn : n ≤ 1048576) (hE : ErrAt w T pv) :
    Calls Tryd.prog 23 #[.slice A n c, .int .i64 x] w (ResP w (alvR l n x)) := by
  have hb0 : Below w.heap.size w (w.alloc (.cells #[.int .i64 x] 3)) := (Below.refl _ _).alloc (Nat.le_refl _) _
  obtain ⟨w0, hw0⟩ : ∃ X, w.alloc (.cells #[.int .i64 x] 3) = X := ⟨_, rfl⟩
  have hr0 : IntR w0 (w.heap.size + 1) (some ⟨w.heap.size, 0, none⟩) 1 [x] := by
    refine ⟨rfl, fun _ => ⟨w.heap.size, 0, rfl, by omega, fun k hk => ?_⟩⟩
    obtain rfl : k = 0 := by omega
    rw [← hw0]
    exact (Blk.made w 3 #[.int .i64 x]).cell 0
  have hs1 : w.heap.size + 1 ≤ w0.heap.size := by rw [← hw0]; simp
  rw [hw0] at hb0
  have HW0 := Lib.hid hw0
  clear hw0
  go_enter Tryd.func23, Tryd.ntmps23
  go_wp2_with fail
  rw [HW0.out]
  refine (arenaWith_any w0 B (w.heap.size + 1) A (some ⟨w.heap.size, 0, none⟩) n c 1 1 l [x] (by omega) hs1 (hl.below (hb0.mono hB)) hr0 hn (by omega)).mono ?_
  rintro e w1 ⟨rfl, hb1, hA⟩
  have HB1 := Lib.hid (hb0.trans (hb1.mono hb0.size))
  have hlen := hl.1
  have hws : w.heap.size ≤ w1.heap.size := HB1.out.size
  clear hb0 hb1 hr0 HW0 hl
  cases hok : (arenaOkR l && idxR n [x]) with
  | false =>
    have HZ : Hid (alvR l n x = none) := by show _ = _; unfold alvR; rw [if_neg (by rw [hok]; decide)]
    clear hok hA
    unfold awV
    go_wp2
    go_ret2
    rw [HZ.out]
    exact resP_none HB1.out
  | true =>
    obtain ⟨A', c', D', hA'⟩ := hA hok
    have HZ : Hid (alvR l n x = if (flN l x.toNat).length ≤ 24 then some (flN l x.toNat) else none) := by show _ = _; unfold alvR; rw [if_pos hok]
    rw [Bool.and_eq_true, idx_one, Bool.and_eq_true, decide_eq_true_eq, decide_eq_true_eq] at hok
    obtain ⟨ha, h0, h1⟩ := hok
    unfold arenaOkR at ha
    rw [Bool.and_eq_true, decide_eq_true_eq, decide_eq_true_eq, hlen] at ha
    obtain ⟨hn3, hall⟩ := ha
    obtain ⟨i, rfl⟩ : ∃ i : Nat, x = i := ⟨x.toNat, by omega⟩
    rw [Int.toNat_natCast] at HZ
    have hin : i < n := by omega
    have HALL := Lib.hid hall
    have hrow := OwnN.reads hA'.row
    have HROW := Lib.hid hrow
    have hcap : n ≤ c' := ownN_cap' hA'.row
    have hbx2 := hA'.box.cell 0
    simp at hbx2
    have HEE : Hid (ErrAt w1 T pv) := hE.below (HB1.out.mono hB) (by omega)
    have hG1 : 0 < w1.heap.size := by omega
    have hcap2 : ¬ ((c' : Int) < (i : Int) + 1) := by omega
    have HS0 : Hid (PileN w1 w1.heap.size none 0 0 (lvR l 0)) := ⟨rfl, [], World.ownsRow_nil _ _ _ _, fun i hi => absurd hi (by omega)⟩
    obtain ⟨i0, hi, hz0, hz1, hz2⟩ := info_parts info_tks
    clear hA hall h0 h1 hA' hrow hE
    unfold awV
    go_wp2
    go_loopw [8, 28] (fun v j wr => ∃ (k : Nat) (Av : Option Addr) (cv : Nat), k ≤ i + 1 ∧ j = .int .i64 k ∧ v = .slice Av k cv ∧ Hid (PileN wr w1.heap.size Av k cv (lvR l k)) ∧ Hid (Below w1.heap.size w1 wr)) (fun _ j _ => i + 1 - (intOf j).toNat)
    case atStart => exact ⟨0, none, 0, by omega, rfl, rfl, HS0.out, Below.refl _ _⟩
    case round =>
      clear HS0 hbx2
      obtain ⟨k, Av, cv, hk, rfl, rfl, HP, HB⟩ := hrel
      have hsr := HB.out.size
      by_cases hki : k < i + 1
      · have hkn : k < n := by omega
        obtain ⟨b, off, rfl, hb, hc⟩ := HROW.out.2 (by omega)
        obtain ⟨x1, x2, x3, x4⟩ := hc k hkn
        obtain ⟨t, ht⟩ : ∃ t, l.getD k nd0 = t := ⟨_, rfl⟩
        have hok := (HALL.out k hkn).1
        rw [ht] at x1 x2 x3 x4 hok
        obtain ⟨o, u, a, y⟩ := t
        have k1 := (HB.out.cell (p := ⟨b, off + k * 4, none⟩) hb).trans x1
        have k2 := (HB.out.cell (p := ⟨b, off + k * 4 + 1, none⟩) hb).trans x2
        have k3 := (HB.out.cell (p := ⟨b, off + k * 4 + 2, none⟩) hb).trans x3
        have k4 := (HB.out.cell (p := ⟨b, off + k * 4 + 3, none⟩) hb).trans x4
        have HV : Hid (lvR l (k + 1) = lvR l k ++ [lvlV (lvR l k) o u a y]) := by show _ = _; rw [lvR, ht]
        obtain ⟨Wx, hW⟩ : ∃ X, wr.alloc (.cells #[.int .i64 o, .int .i64 u, .int .i64 a, .int .i64 y] 72) = X := ⟨_, rfl⟩
        have hbx : Blk Wx wr.heap.size 72 #[.int .i64 o, .int .i64 u, .int .i64 a, .int .i64 y] := by rw [← hW]; exact Blk.made _ _ _
        have hbw : Below wr.heap.size wr Wx := by rw [← hW]; exact (Below.refl _ _).alloc (Nat.le_refl _) _
        have q0 := hbx.cell 0
        have q1 := hbx.cell 1
        have q2 := hbx.cell 2
        have q3 := hbx.cell 3
        simp at q0 q1 q2 q3
        have HPX : Hid (PileN Wx w1.heap.size Av k cv (lvR l k)) := HP.out.below hbw
        have HBX := Lib.hid (HB.out.trans (hbw.mono hsr))
        have hsx : w1.heap.size ≤ Wx.heap.size := HBX.out.size
        have HEX : Hid (ErrAt Wx T pv) := HEE.out.below HBX.out hG1
        have HOKN := Lib.hid hok
        clear hok ht hc x1 x2 x3 x4 hbx hbw HP HB
        go_wp2_with fail
        refine (nodLevel_any Wx w1.heap.size o u a y Av k cv (lvR l k) T pv (by omega) HEX.out HOKN.out HPX.out (lvR_bd l k)).mono ?_
        rintro e w5 ⟨A6, c6, rfl, ho6, hb6⟩
        have hbA : Below w5.heap.size w5 (w5.alloc (.cells #[.slice A6 (lvlV (lvR l k) o u a y).length c6] 30)) := (Below.refl _ _).alloc (Nat.le_refl _) _
        obtain ⟨hpl, vals, hp2, hp3⟩ := (HPX.out.below hb6).below hbA
        have hx6 := own_base (own_below' ho6 hbA) hsx
        have HB6 := Lib.hid (HBX.out.trans (hb6.mono hsx))
        have hs6 : w1.heap.size ≤ w5.heap.size := HB6.out.size
        have HP3 := Lib.hid hp3
        have HX6 := Lib.hid hx6
        clear ho6 hb6 hbA hp3 hx6 HPX HBX q0 q1 q2 q3 k1 k2 k3 k4 hW
        go_wp2_with (at_builtin; refine wpList_append_own _ rfl (.tmp 32) (.tmp 36) 91 rfl w1.heap.size 30 i0 (.slice none 0 0) 1 24 Tryd.underlying91 hi hz0 hz1 hz2 rfl (by decide) (.slice Av k cv) k vals rfl hp2 ⟨w5.heap.size, 0, none⟩ 1 1 [.slice A6 (lvlV (lvR l k) o u a y).length c6] rfl rfl (cell_one_new _ _ _) (fun u hu => by simp at hu; subst hu; rfl) (by unfold maxLen; omega) (by omega) (by simp; omega) ?_; intro v' w6 hown' hgrow _; obtain ⟨g7, c7, rfl⟩ := pile_some hown')
        have HP7 : Hid (PileN w6 w1.heap.size (some ⟨g7, 0, none⟩) (k + 1) c7 (lvR l (k + 1))) := by
          show PileN _ _ _ _ _ _
          rw [HV.out]
          exact PileN.push hpl hp2 HP3.out HX6.out hgrow hown'
        have HB7 : Hid (Below w1.heap.size w1 w6) := (HB6.out.alloc hs6 _).grown hgrow (by simp; omega) (fun k h => (hp2.lt k h).1)
        clear hown' hgrow hp2 hpl HP3 HX6
        go_wp2
        go_roundw
        case rel => exact ⟨k + 1, some ⟨g7, 0, none⟩, c7, by omega, by go_num, rfl, HP7.out, HB7.out⟩
        case measure => simp [intOf]; omega
      · obtain rfl : k = i + 1 := by omega
        obtain ⟨g, Ai, ci, rfl, hg, hcell, hrow⟩ := HP.out.at (i := i) (by omega)
        have hget : (lvR l (i + 1)).getD i [] = lvN l i := rfl
        rw [hget] at hcell hrow
        have hsm : (lvN l i).length ≤ 24 := lvR_bd l (i + 1) i
        have HR := Lib.hid hrow
        have HZ2 : Hid (alvR l n (i : Int) = ifR (lvN l i)) := by
          show _ = _
          obtain ⟨e1, e2, e3⟩ := fl_lv HALL.out i hin
          rw [HZ.out, e3]
          unfold ifR
          by_cases hle : (flN l i).length ≤ 24
          · rw [if_pos hle, if_pos hle, if_pos ((lvlOk_iff _).2 ⟨e2, hle, e1⟩)]
          · rw [if_neg hle, if_neg hle, if_neg (by decide)]
        have HER : Hid (ErrAt wr T pv) := HEE.out.below HB.out hG1
        have HB3 := Lib.hid (HB1.out.trans (HB.out.mono hws))
        have hib : (i : Int) < ((i + 1 : Nat) : Int) := by omega
        clear hrow hget HP
        go_wp2_with fail
        refine (checked_any wr w1.heap.size Ai (lvN l i).length ci (lvN l i) T pv (by omega) (by omega) HR.out HER.out).mono ?_
        rintro e w7 ⟨⟨A7, c7, rfl, ho7⟩, hb7⟩
        have HO7 := Lib.hid (own_base ho7 hws)
        have HB7 := Lib.hid (HB3.out.trans (hb7.mono HB3.out.size))
        clear ho7 hb7
        go_wp2
        go_ret2
        rw [HZ2.out]
        exact ⟨A7, c7, rfl, HO7.out, HB7.out⟩
end Go.Proofs.YtfmhmnpmdjpmeaaDoor
