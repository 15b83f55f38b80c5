/- A level that was put into an arena: it is there, with its values, and put again it changes nothing. -/
/- The reference model's LevelOk, LevelEval and LevelOff, for every argument; the program's LevelOff. -/
/- ArenaEval of the model. -/
import Derived.Test.YtfmhmnpmdjpmeaaDoorNdMv
import Derived.Test.YtfmhmnpmdjpmeaaDoorBase
import Derived.Test.YtfmhmnpmdjpmeaaDoorApI2
import Derived.Test.YtfmhmnpmdjpmeaaDoorCsMath3

namespace Go.Proofs.YtfmhmnpmdjpmeaaDoor
open Go.RowKit

/-- an arena to which the node of a token is added is one -/
theorem addNd_all {ns : List Nd} {x : Nd} (h : NdAll ns ns.length) (hx : ndOk x ns.length = true) : NdAll (addNd ns x) (addNd ns x).length := by
  unfold addNd
  split
  · exact h
  · rename_i hm
    intro i hi
    rw [List.length_append, List.length_singleton] at hi
    by_cases e : i = ns.length
    · subst e
      have hg : (ns ++ [x]).getD ns.length nd0 = x := last_getD ns x nd0 _ rfl
      rw [hg]
      refine ⟨hx, ?_⟩
      rw [List.take_append_of_le_length (Nat.le_refl _), List.take_length]
      exact hm
    · have hi' : i < ns.length := by omega
      have hg : (ns ++ [x]).getD i nd0 = ns.getD i nd0 := by
        rw [List.getD_eq_getElem?_getD, List.getElem?_append_left hi', ← List.getD_eq_getElem?_getD]
      rw [hg, List.take_append_of_le_length (by omega)]
      exact h i hi'
theorem put_all {ns : List Nd} {l : List (Int × Int)} (h : NdAll ns ns.length) (hok : Lv.levelOk l = true) : ∀ k, k ≤ l.length → NdAll (putTo ns l k).1 (putTo ns l k).1.length
  | 0, _ => h
  | k + 1, hk => addNd_all (put_all h hok k (by omega)) (put_nd hok (by omega))
theorem put_pre (ns : List Nd) (l : List (Int × Int)) : ∀ j k, j ≤ k → ∃ t, (putTo ns l k).1 = (putTo ns l j).1 ++ t := by
  intro j k
  induction k with
  | zero =>
    intro h
    obtain rfl : j = 0 := by omega
    exact ⟨[], (List.append_nil _).symm⟩
  | succ k ih =>
    intro h
    by_cases e : j = k + 1
    · subst e; exact ⟨[], (List.append_nil _).symm⟩
    · obtain ⟨t, ht⟩ := ih (by omega)
      obtain ⟨u, hu⟩ := addNd_pre (putTo ns l k).1 (putNd (l.getD k (0, 0)) (putTo ns l k).2)
      exact ⟨t ++ u, by rw [← List.append_assoc, ← ht]; exact hu⟩
/-- the node of the k-th token is in the list that is made, at the place that was found -/
theorem put_has {ns : List Nd} {l : List (Int × Int)} {k n : Nat} (h : k < n) : putNd (l.getD k (0, 0)) (putTo ns l k).2 ∈ (putTo ns l n).1 ∧ (putTo ns l n).1.idxOf (putNd (l.getD k (0, 0)) (putTo ns l k).2) = (putTo ns l k).1.idxOf (putNd (l.getD k (0, 0)) (putTo ns l k).2) := by
  obtain ⟨t, ht⟩ := put_pre ns l (k + 1) n (by omega)
  obtain ⟨x, hx⟩ : ∃ x, putNd (l.getD k (0, 0)) (putTo ns l k).2 = x := ⟨_, rfl⟩
  have h1 : (putTo ns l (k + 1)).1 = addNd (putTo ns l k).1 x := by rw [← hx]; rfl
  rw [hx, ht, h1]
  have hm : x ∈ addNd (putTo ns l k).1 x := by
    unfold addNd
    split
    · assumption
    · simp
  refine ⟨List.mem_append_left _ hm, ?_⟩
  rw [List.idxOf_append, if_pos hm]
  unfold addNd
  split
  · rfl
  · rename_i hn
    rw [List.idxOf_append, if_neg hn, List.idxOf_cons_self, List.idxOf_eq_length hn]
    omega
/-- put again, nothing is added, and the places are the same -/
theorem put_again {ns : List Nd} {l : List (Int × Int)} {n : Nat} : ∀ k, k ≤ n → putTo (putTo ns l n).1 l k = ((putTo ns l n).1, (putTo ns l k).2)
  | 0, _ => rfl
  | k + 1, hk => by
    have ih := put_again (ns := ns) (l := l) (n := n) k (by omega)
    obtain ⟨h1, h2⟩ := put_has (ns := ns) (l := l) (k := k) (n := n) (by omega)
    show putS (putTo (putTo ns l n).1 l k).1 (putTo (putTo ns l n).1 l k).2 (l.getD k (0, 0)) = _
    rw [ih]
    unfold putS
    simp only
    rw [h2]
    unfold addNd
    rw [if_pos h1]
    rfl
/-- what lies at a place of the list that is made -/
theorem put_at {ns : List Nd} {l : List (Int × Int)} {k n : Nat} (h : k < n) : (putTo ns l n).1.getD ((putTo ns l k).1.idxOf (putNd (l.getD k (0, 0)) (putTo ns l k).2)) nd0 = putNd (l.getD k (0, 0)) (putTo ns l k).2 ∧ (putTo ns l k).1.idxOf (putNd (l.getD k (0, 0)) (putTo ns l k).2) < (putTo ns l n).1.length := by
  obtain ⟨h1, h2⟩ := put_has (ns := ns) (l := l) h
  rw [← h2]
  have hlt := List.idxOf_lt_length_of_mem h1
  refine ⟨?_, hlt⟩
  rw [List.getD_eq_getElem?_getD, List.getElem?_eq_getElem hlt]
  simp
theorem flat_cons (g : Int → Tks) (z : Int) (st : List Int) : ((z :: st).reverse.map g).flatten = (st.reverse.map g).flatten ++ g z := by simp
theorem sem_step (env : List Int) (M : List Nd) (q : Nat) (t : Int × Int) (st : List Int) (lt : Tks) (htk : Lv.tkOk t = true) (hst : tkN t.1 ≤ st.length) (hnd : ndOk (putNd t st) q = true)
    (hfl : flN M q = lvlT (flR M q) (putNd t st).1 (putNd t st).2.1 (putNd t st).2.2.1 (putNd t st).2.2.2) (hav : avN env M q = nodeV env (avR env M q) (putNd t st).1 (putNd t st).2.1 (putNd t st).2.2.1 (putNd t st).2.2.2)
    (ih1 : (st.reverse.map fun z => flN M z.toNat).flatten = lt) :
    ((((q : Int) :: st.drop (tkN t.1)).reverse.map fun z => flN M z.toNat).flatten = lt ++ [t]) ∧ Lv.step env t (st.map fun z => avN env M z.toNat) = some ((((q : Int) :: st.drop (tkN t.1))).map fun z => avN env M z.toNat) := by
  have hop := Lv.tk_cases htk
  obtain ⟨op, N⟩ := t
  simp only at hop hst
  rcases (show (op = 0 ∨ op = 4) ∨ op = 1 ∨ (op = 2 ∨ op = 3) by omega) with h0 | rfl | h2
  · obtain ⟨hx, -, -, hD⟩ : putNd (op, N) st = (op, N, -1, -1) ∧ True ∧ True ∧ tkN op = 0 := by rcases h0 with rfl | rfl <;> exact ⟨rfl, trivial, trivial, rfl⟩
    rw [hx] at hnd hfl hav
    have hcl := lvlT_cases (vals := flR M q) hnd
    have hcv := nodeV_cases (env := env) (vals := avR env M q) hnd
    have hnc := ndOk_cases hnd
    simp only at hfl hav
    have e1 : flN M q = [(op, N)] := by
      rw [hfl]
      rcases hcl with ⟨_, h, _⟩ | ⟨h, _⟩ | ⟨h, _⟩
      · exact h
      · omega
      · omega
    have e2 : avN env M q = if op = 4 then env.getD N.toNat 0 else 0 := by
      rw [hav]
      rcases hcv with ⟨_, h⟩ | ⟨h, _⟩ | ⟨h, _⟩
      · exact h
      · omega
      · omega
    rw [hD]
    constructor
    · rw [List.drop_zero, flat_cons, ih1, Int.toNat_natCast, e1]
    · rw [List.drop_zero, List.map_cons, Int.toNat_natCast, e2]
      rcases h0 with rfl | rfl
      · simp [Lv.step, htk]
      · simp [Lv.step, htk]
  · rcases st with _ | ⟨b, st1⟩
    · simp [tkN] at hst
    · skip
      have hN : N = 0 := by simp [Lv.tkOk] at htk; omega
      subst hN
      have hx : putNd (1, 0) (b :: st1) = (1, 0, -1, b) := rfl
      rw [hx] at hnd hfl hav
      have hcl := lvlT_cases (vals := flR M q) hnd
      have hcv := nodeV_cases (env := env) (vals := avR env M q) hnd
      have hnc := ndOk_cases hnd
      simp only at hfl hav
      have hb : 0 ≤ b ∧ b < q := by omega
      have e1 : flN M q = flN M b.toNat ++ [(1, 0)] := by
        rw [hfl]
        rcases hcl with ⟨h, _⟩ | ⟨_, _, _, h⟩ | ⟨h, _⟩
        · omega
        · rw [h, flR_get M _ q (by omega)]
        · omega
      have e2 : avN env M q = avN env M b.toNat + 1 := by
        rw [hav]
        rcases hcv with ⟨h, _⟩ | ⟨_, _, _, _, h⟩ | ⟨h, _⟩
        · omega
        · rw [h, avN_get env M (by omega)]
        · omega
      rw [show (b :: st1).drop (tkN 1) = st1 from rfl]
      constructor
      · rw [flat_cons, Int.toNat_natCast, e1, ← List.append_assoc, ← flat_cons (fun z => flN M z.toNat) b st1, ih1]
      · rw [List.map_cons, List.map_cons, Int.toNat_natCast, e2]
        simp [Lv.step, htk]
  · rcases st with _ | ⟨b, _ | ⟨a, st2⟩⟩
    · rcases h2 with rfl | rfl <;> simp [tkN] at hst
    · rcases h2 with rfl | rfl <;> simp [tkN] at hst
    · skip
      have hN : N = 0 := by simp [Lv.tkOk] at htk; omega
      subst hN
      obtain ⟨hx, hD, ht1⟩ : putNd (op, 0) (b :: a :: st2) = (op, 0, a, b) ∧ (b :: a :: st2).drop (tkN op) = st2 ∧ op ≠ 1 := by rcases h2 with rfl | rfl <;> exact ⟨rfl, rfl, by decide⟩
      rw [hx] at hnd hfl hav
      have hcl := lvlT_cases (vals := flR M q) hnd
      have hcv := nodeV_cases (env := env) (vals := avR env M q) hnd
      have hnc := ndOk_cases hnd
      simp only at hfl hav
      have hb : 0 ≤ b ∧ b < q ∧ 0 ≤ a ∧ a < q := by omega
      have e1 : flN M q = flN M a.toNat ++ (flN M b.toNat ++ [(op, 0)]) := by
        rw [hfl]
        rcases hcl with ⟨h, _⟩ | ⟨h, _⟩ | ⟨_, _, _, _, h⟩
        · omega
        · omega
        · rw [h, flR_get M _ q (by omega), flR_get M _ q (by omega)]
      have e2 : avN env M q = if op = 2 then max (avN env M a.toNat) (avN env M b.toNat) else if avN env M b.toNat = 0 then 0 else max (avN env M a.toNat) (avN env M b.toNat) := by
        rw [hav]
        rcases hcv with ⟨h, _⟩ | ⟨h, _⟩ | ⟨_, _, _, _, _, h⟩
        · omega
        · omega
        · rw [h, avN_get env M (by omega), avN_get env M (by omega)]
      rw [hD]
      constructor
      · rw [flat_cons, Int.toNat_natCast, e1, ← List.append_assoc, ← List.append_assoc, ← flat_cons (fun z => flN M z.toNat) a st2, ← flat_cons (fun z => flN M z.toNat) b (a :: st2), ih1]
      · rw [List.map_cons, List.map_cons, List.map_cons, Int.toNat_natCast, e2]
        rcases h2 with rfl | rfl
        · simp [Lv.step, htk]
        · simp [Lv.step, htk]
/-- the levels on the stack, the lowest first, are the tokens so far; their values are the machine's stack -/
theorem put_sem {ns : List Nd} {l : List (Int × Int)} (h : NdAll ns ns.length) (hok : Lv.levelOk l = true) (env : List Int) : ∀ k, k ≤ l.length →
    (((putTo ns l k).2.reverse.map fun z => flN (putTo ns l l.length).1 z.toNat).flatten = l.take k ∧ Lv.run env (l.take k) [] = some ((putTo ns l k).2.map fun z => avN env (putTo ns l l.length).1 z.toNat))
  | 0, _ => ⟨rfl, rfl⟩
  | k + 1, hk => by
    obtain ⟨ih1, ih2⟩ := put_sem h hok env k (by omega)
    have hall := put_all h hok l.length (Nat.le_refl _)
    obtain ⟨a1, a2⟩ := put_at (ns := ns) (l := l) (k := k) (n := l.length) (by omega)
    obtain ⟨b1, b2⟩ := put_step (ns := ns) hok (k := k) (by omega)
    have hnd := (hall _ a2).1
    have hfl := flN_eq (putTo ns l l.length).1 ((putTo ns l k).1.idxOf (putNd (l.getD k (0, 0)) (putTo ns l k).2))
    have hav := avN_eq env (putTo ns l l.length).1 ((putTo ns l k).1.idxOf (putNd (l.getD k (0, 0)) (putTo ns l k).2))
    rw [a1] at hnd hfl hav
    obtain ⟨r1, r2⟩ := sem_step env _ _ _ _ _ b1 b2 hnd hfl hav ih1
    rw [tok_take (by omega)]
    refine ⟨r1, ?_⟩
    rw [Lv.run_append, ih2, Option.bind_some]
    simp only [Lv.run]
    rw [r2]
    rfl
/-- what FnArena asks of a level that was put -/
theorem put_facts {ns : List Nd} {l : List (Int × Int)} (h : putOk ns l = true) :
    arenaOkR (putNs ns l) = true ∧ (∃ t, putNs ns l = ns ++ t) ∧ putOk (putNs ns l) l = true ∧ putNs (putNs ns l) l = putNs ns l ∧ putIx (putNs ns l) l = putIx ns l ∧ Lv.levelOk l = true ∧
      alvR (putNs ns l) (putNs ns l).length (putIx ns l) = some l ∧ ∀ env, envOk env = true → aevR (putNs ns l) (putNs ns l).length (putIx ns l) env = Lv.eval env l := by
  obtain ⟨e1, e2⟩ := putOk_yes h
  have h' := h
  unfold putOk at h'
  rw [Bool.and_eq_true, Bool.and_eq_true, decide_eq_true_eq] at h'
  obtain ⟨⟨ha, hok⟩, h200⟩ := h'
  have ha' := ha
  unfold arenaOkR at ha'
  rw [Bool.and_eq_true, decide_eq_true_eq, decide_eq_true_eq] at ha'
  obtain ⟨_, hall⟩ := ha'
  have hM := put_all hall hok l.length (Nat.le_refl _)
  have hag := put_again (ns := ns) (l := l) (n := l.length) l.length (Nat.le_refl _)
  have hMok : arenaOkR (putTo ns l l.length).1 = true := arena_yes rfl h200 hM
  have hok2 : putOk (putTo ns l l.length).1 l = true := by
    unfold putOk
    rw [hag, hMok, hok, decide_eq_true h200]
    rfl
  obtain ⟨v, hv⟩ : ∃ v, (putTo ns l l.length).2 = [v] := by
    have h1 := put_last (ns := ns) hok
    match (putTo ns l l.length).2, h1 with
    | [v], _ => exact ⟨v, rfl⟩
  have hvb := put_bd ns l l.length v (by rw [hv]; simp)
  obtain ⟨q, rfl⟩ : ∃ q : Nat, v = q := ⟨v.toNat, by omega⟩
  have hq : q < (putTo ns l l.length).1.length := by omega
  rw [e1, e2, hv]
  refine ⟨hMok, put_pre ns l 0 l.length (Nat.zero_le _), hok2, ?_, ?_, hok, ?_, fun env he => ?_⟩
  · rw [(putOk_yes hok2).1, hag]
  · rw [(putOk_yes hok2).2, hag]
    simp only
    rw [hv]
  · have hs := (put_sem hall hok [] l.length (Nat.le_refl _)).1
    rw [hv, List.take_length] at hs
    simp at hs
    show alvR _ _ (q : Int) = _
    unfold alvR
    rw [if_pos (by rw [hMok, idx_one, decide_eq_true (by omega), decide_eq_true (by omega)]; rfl), Int.toNat_natCast, hs, if_pos ((lvlOk_iff l).1 hok).2.1]
  · have hs := (put_sem hall hok env l.length (Nat.le_refl _)).2
    rw [hv, List.take_length] at hs
    simp at hs
    show aevR _ _ (q : Int) env = _
    unfold aevR
    rw [if_pos (by rw [hMok, he, idx_one, decide_eq_true (by omega), decide_eq_true (by omega)]; rfl), Int.toNat_natCast]
    unfold Lv.eval
    rw [if_pos hok, hs]
    rfl
end Go.Proofs.YtfmhmnpmdjpmeaaDoor

namespace Go.Proofs.YtfmhmnpmdjpmeaaDoor
open Go.RowKit

set_option maxHeartbeats 400000 in
theorem takes_any (op : Int) (w : World) :
    Calls Tryd.prog 52 #[.int .i64 op] w fun e w' => e = .returned (.int .i64 (Lv.takes op)) ∧ w = w' := by
  by_cases h1 : op = 1
  · subst h1
    go_enter Tryd.func52, Tryd.ntmps52
    go_wp2
    go_ret
    exact ⟨ret_int (by decide), rfl⟩
  · have e1 : (op == 1) = false := by simpa using h1
    by_cases h2 : op = 2
    · subst h2
      go_enter Tryd.func52, Tryd.ntmps52
      go_wp2
      go_ret
      exact ⟨ret_int (by decide), rfl⟩
    · have e2 : (op == 2) = false := by simpa using h2
      by_cases h3 : op = 3
      · subst h3
        go_enter Tryd.func52, Tryd.ntmps52
        go_wp2
        go_ret
        exact ⟨ret_int (by decide), rfl⟩
      · have e3 : (op == 3) = false := by simpa using h3
        have HT : Hid (Lv.takes op = 0) := by show Lv.takes op = 0; simp [Lv.takes, h1, h2, h3]
        clear h1 h2 h3
        go_enter Tryd.func52, Tryd.ntmps52
        go_wp2
        go_ret
        exact ⟨by rw [HT.out]; rfl, rfl⟩

theorem hts_bd {l : List (Int × Int)} {m : Int} (h : Lv.hts l 0 = some m) : 0 ≤ m ∧ m ≤ l.length := by
  have H : ∀ (l : List (Int × Int)) (n m : Int), 0 ≤ n → Lv.hts l n = some m → 0 ≤ m ∧ m ≤ n + l.length := by
    intro l
    induction l with
    | nil => intro n m hn h; cases h; simp; omega
    | cons t r ih =>
      intro n m hn h
      simp only [Lv.hts] at h
      split at h
      · rename_i hc
        have hb := Lv.takes_bd t.1
        have := ih _ m (by omega) h
        simp
        omega
      · cases h
  have := H l 0 m (by omega) h
  omega

theorem hts_one (t : Int × Int) (m : Int) : Lv.hts [t] m = if Lv.tkOk t = true ∧ Lv.takes t.1 ≤ m then some (m - Lv.takes t.1 + 1) else none := by
  simp only [Lv.hts]

set_option maxRecDepth 100000 in
set_option maxHeartbeats 1600000 in
theorem specOk_any (w : World) (B : Nat) (A : Option Addr) (n c : Nat) (l : List (Int × Int)) (hB : B ≤ w.heap.size) (hl : TokR w B A n l) (hn : (n : Int) ≤ 140737488355328) :
    Calls Tryd.prog 51 #[.slice A n c] w fun e w' => e = .returned (.bool (Lv.levelOk l)) ∧ Below w.heap.size w w' := by
  by_cases h24 : 1 ≤ n ∧ n ≤ 24
  · obtain ⟨h1, h2⟩ := h24
    have d1 : decide ((n : Int) < 1) = false := by simp; omega
    have d2 : decide ((24 : Int) < (n : Int)) = false := by simp; omega
    obtain ⟨b, off, rfl, hb, hc⟩ := hl.2 (by omega)
    have HC := Lib.hid hc
    have HL := Lib.hid hl.1
    clear hc hl
    go_enter Tryd.func51, Tryd.ntmps51
    go_wp2
    go_loopw [3, 4] (fun m i wr => ∃ (k : Nat) (m' : Int), k ≤ n ∧ i = .int .i64 k ∧ m = .int .i64 m' ∧ Hid (Lv.hts (l.take k) 0 = some m') ∧ Below w.heap.size w wr) (fun _ i _ => n - (intOf i).toNat)
    case atStart => exact ⟨0, 0, Nat.zero_le _, rfl, rfl, rfl, Below.refl _ _⟩
    case round =>
      obtain ⟨k, m, hk, rfl, rfl, HH, hbel⟩ := hrel
      have hmb := hts_bd HH.out
      have hm0 := hmb.1
      have hm1 : m ≤ 24 := by
        have := hmb.2
        have h3 := HL.out
        simp at this
        omega
      clear hmb
      by_cases hlt : k < n
      · have hcell := HC.out k hlt
        have HS := Lib.hid (Lv.hts_take_succ l k (by rw [HL.out]; exact hlt) 0)
        rw [HH.out, Option.bind_some] at HS
        generalize l.getD k (0, 0) = t at hcell HS
        obtain ⟨op, N⟩ := t
        rw [hts_one] at HS
        obtain ⟨c1, c2⟩ := hcell
        have k1 := (hbel.cell (p := ⟨b, off + k * 2, none⟩) (by show b < _; omega)).trans c1
        have k2 := (hbel.cell (p := ⟨b, off + k * 2 + 1, none⟩) (by show b < _; omega)).trans c2
        have htk := Lv.takes_bd op
        have ht0 := htk.1
        have ht2 := htk.2
        clear c1 c2 htk
        have hszr := hbel.size
        have hbA := hbel.alloc hszr (.cells #[.int .i64 op, .int .i64 N] 70)
        have HBA := Lib.hid hbA
        clear hbA
        have fail_of : ¬ (Lv.tkOk (op, N) = true ∧ Lv.takes op ≤ m) → Hid (Lv.levelOk l = false) := by
          intro hno
          have h := HS.out
          rw [if_neg hno] at h
          have h2 := Lv.hts_none_of_take h
          show Lv.levelOk l = false
          simp [Lv.levelOk, h2]
        by_cases g0 : op < 0
        · have HF := fail_of (by intro h; have h := h.1; simp [Lv.tkOk] at h; omega)
          clear fail_of
          go_wp2
          go_ret
          exact ⟨by rw [HF.out]; rfl, HBA.out⟩
        · have g0' : 0 ≤ op := by omega
          by_cases g4 : 4 < op
          · have HF := fail_of (by intro h; have h := h.1; simp [Lv.tkOk] at h; omega)
            clear fail_of
            go_wp2
            go_ret
            exact ⟨by rw [HF.out]; rfl, HBA.out⟩
          · have g4' : op ≤ 4 := by omega
            by_cases hN : N < 0 ∨ 5 ≤ N ∨ (op ≠ 4 ∧ N ≠ 0)
            · have HF := fail_of (by intro h; have h := h.1; simp [Lv.tkOk] at h; omega)
              clear fail_of
              by_cases e4 : op = 4
              · subst e4
                by_cases hN0 : N < 0
                · clear hN
                  go_wp2
                  go_ret
                  exact ⟨by rw [HF.out]; rfl, HBA.out⟩
                · have hN5 : 5 ≤ N := by omega
                  clear hN hN0
                  go_wp2
                  go_ret
                  exact ⟨by rw [HF.out]; rfl, HBA.out⟩
              · have b4 : (op != 4) = true := by simpa using e4
                by_cases z : N = 0
                · omega
                · have bz : (N != 0) = true := by simpa using z
                  clear hN e4 z
                  go_wp2
                  go_ret
                  exact ⟨by rw [HF.out]; rfl, HBA.out⟩
            · have hN0 : 0 ≤ N := by omega
              have hN5 : N < 5 := by omega
              have hok : Lv.tkOk (op, N) = true := by simp [Lv.tkOk]; omega
              have HOK := Lib.hid hok
              clear hok
              by_cases htm : Lv.takes op ≤ m
              · have HS2 : Hid (Lv.hts (l.take (k + 1)) 0 = some (m - Lv.takes op + 1)) := by
                  have h := HS.out
                  rw [if_pos ⟨HOK.out, htm⟩] at h
                  exact h
                have HLe := Lib.hid htm
                clear fail_of
                by_cases e4 : op = 4
                · subst e4
                  clear hN
                  go_wp2_with fail
                  refine (takes_any _ _).mono ?_
                  rintro e w' ⟨rfl, rfl⟩
                  go_wp2_with fail
                  refine (takes_any _ _).mono ?_
                  rintro e w' ⟨rfl, rfl⟩
                  go_wp2
                  go_roundw
                  case rel => exact ⟨k + 1, m - Lv.takes 4 + 1, by omega, by go_num, by go_num, HS2.out, HBA.out⟩
                  case measure => simp [intOf]; omega
                · have b4 : (op != 4) = true := by simpa using e4
                  obtain rfl : N = 0 := by omega
                  clear hN e4
                  go_wp2_with fail
                  refine (takes_any _ _).mono ?_
                  rintro e w' ⟨rfl, rfl⟩
                  go_wp2_with fail
                  refine (takes_any _ _).mono ?_
                  rintro e w' ⟨rfl, rfl⟩
                  go_wp2
                  go_roundw
                  case rel => exact ⟨k + 1, m - Lv.takes op + 1, by omega, by go_num, by go_num, HS2.out, HBA.out⟩
                  case measure => simp [intOf]; omega
              · have HF := fail_of (by intro h; exact htm h.2)
                have htm' : m < Lv.takes op := by omega
                clear fail_of htm
                by_cases e4 : op = 4
                · subst e4
                  clear hN
                  go_wp2_with fail
                  refine (takes_any _ _).mono ?_
                  rintro e w' ⟨rfl, rfl⟩
                  go_wp2
                  go_ret
                  exact ⟨by rw [HF.out]; rfl, HBA.out⟩
                · have b4 : (op != 4) = true := by simpa using e4
                  obtain rfl : N = 0 := by omega
                  clear hN e4
                  go_wp2_with fail
                  refine (takes_any _ _).mono ?_
                  rintro e w' ⟨rfl, rfl⟩
                  go_wp2
                  go_ret
                  exact ⟨by rw [HF.out]; rfl, HBA.out⟩
      · have HF : Hid (Lv.levelOk l = (m == 1)) := by
          have h := HH.out
          have hln := HL.out
          rw [List.take_of_length_le (by omega)] at h
          have h1' : 1 ≤ l.length := by omega
          have h2' : l.length ≤ 24 := by omega
          show Lv.levelOk l = (m == 1)
          simp only [Lv.levelOk, h, h1', h2', decide_true, Bool.true_and, Option.some.injEq]
          by_cases e : m = 1 <;> simp [e]
        go_wp2
        go_ret
        exact ⟨by rw [HF.out]; rfl, hbel⟩
  · have HF : Hid (Lv.levelOk l = false) := by
      have hln := hl.1
      show Lv.levelOk l = false
      rw [Bool.eq_false_iff]
      intro hk
      simp [Lv.levelOk] at hk
      omega
    by_cases h0 : n < 1
    · obtain rfl : n = 0 := by omega
      clear hl
      go_enter Tryd.func51, Tryd.ntmps51
      go_wp2
      go_ret
      exact ⟨by rw [HF.out]; rfl, Below.refl _ _⟩
    · have h1 : 24 < n := by omega
      clear hl h24
      go_enter Tryd.func51, Tryd.ntmps51
      go_wp2
      go_ret
      exact ⟨by rw [HF.out]; rfl, Below.refl _ _⟩
end Go.Proofs.YtfmhmnpmdjpmeaaDoor

namespace Go.Proofs.YtfmhmnpmdjpmeaaDoor
open Go.RowKit

theorem ownI_spot {w : World} {base g n c i : Nat} {l : List Int} (h : OwnI w base (some ⟨g, 0, none⟩) n c l) (hi : i < n) : w.cell? ⟨g, i, none⟩ = some (.int .i64 (l.getD i 0)) := by
  obtain ⟨b, off, hA, _, hc⟩ := (OwnI.reads h).2 (by omega)
  rcases h.2 with ⟨h0, _⟩ | ⟨g', cap, cur, hv, hb, hgg, _⟩
  · cases h0
  · injection hA with e2
    injection e2 with e2 e3
    subst e2; subst e3
    have := hc i hi
    rwa [Nat.zero_add] at this
theorem ownI_some {w : World} {base n : Nat} {v : Value} {xs : List Value} (h : w.ownsRow base 3 1 v (n + 1) xs) : ∃ g c, v = .slice (some ⟨g, 0, none⟩) (n + 1) c := by
  rcases h.2 with ⟨_, h⟩ | ⟨g, c, _, h, _⟩
  · omega
  · exact ⟨g, c, h⟩

end Go.Proofs.YtfmhmnpmdjpmeaaDoor
