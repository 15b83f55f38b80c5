/- The reference model's evaluation of a right level on a pile. -/
import Derived.Test.YtijiohdddfdjfaaDoorEvalLaw
import Derived.Test.YtijiohdddfdjfaaDoorSpec
namespace Go.Proofs.YtijiohdddfdjfaaDoor
open Go.RowKit

/-- what holds at the head of each round: the pile v is the call's own row, the stack of the plain function -/
def AtPile (w : World) (env : List Int) (l : List (Int × Int)) (k : Nat) (v : Value) (wr : World) : Prop :=
  ∃ st A c, Lv.run env (l.take k) [] = some st ∧ v = .slice A st.length c ∧ wr.ownsRow w.heap.size 3 1 (.slice A st.length c) st.length (st.reverse.map (Value.int .i64)) ∧
    st.length ≤ k ∧ (∀ x ∈ st, 0 ≤ x ∧ x ≤ 1000 + (k : Int)) ∧ Below w.heap.size w wr

/-- an owned row that is not empty lies at the head of a block -/
theorem own_head {w : World} {base : Nat} {e : TypeId} {A : Option Addr} {n c : Nat} {xs : List Value} (h : w.ownsRow base e 1 (.slice A n c) n xs) (hn : 0 < n) :
    ∃ g, A = some ⟨g, 0, none⟩ ∧ n ≤ c ∧ base ≤ g ∧ (∃ cur, Blk w g e cur ∧ cur.size = c * 1 ∧ cur.toList.take (n * 1) = xs) ∧ ∀ j x, xs[j]? = some x → w.cell? ⟨g, j, none⟩ = some x := by
  rcases h.2 with ⟨_, h0⟩ | ⟨g, cap, cur, hv, hb, hgg, h1, h2, h3, h4⟩
  · omega
  · injection hv with e1 e2 e3
    subst e1; subst e3
    refine ⟨g, rfl, h1, hb, ⟨cur, hgg, h3, h4⟩, fun j x hx => ?_⟩
    have := h.cells (g := g) rfl j x hx
    have hadd : (⟨g, 0, none⟩ : Addr).add j = ⟨g, j, none⟩ := by unfold Addr.add; split <;> simp_all
    rw [hadd] at this
    exact this

/-- the last cell of an owned row, stored anew -/
theorem own_last {w : World} {base g cap n : Nat} {e : TypeId} {xs : List Value} {x y : Value} (h : w.ownsRow base e 1 (.slice (some ⟨g, 0, none⟩) (n + 1) cap) (n + 1) (xs ++ [x])) :
    (w.setCell ⟨g, n, none⟩ y).ownsRow base e 1 (.slice (some ⟨g, 0, none⟩) (n + 1) cap) (n + 1) (xs ++ [y]) := by
  have hl := h.1
  simp at hl
  rcases h.2 with ⟨h0, _⟩ | ⟨g', cap', cur, hv, hb, hgg, h1, h2, h3, h4⟩
  · cases h0
  · injection hv with e1 e2 e3
    injection e1 with e1
    injection e1 with e1
    subst e1; subst e3
    have hblk : Blk w g e cur := hgg
    refine ⟨by simp; omega, .inr ⟨g, cap, _, rfl, hb, hblk.put n y, h1, h2, by simp [h3], ?_⟩⟩
    have hsz : n < cur.toList.length := by simp; omega
    rw [Array.toList_setIfInBounds, Nat.mul_one, List.take_set, List.take_succ_eq_append_getElem hsz]
    have h5 : cur.toList.take n = xs := by
      have := congrArg (List.take n) h4
      rw [List.take_take, show min n ((n + 1) * 1) = n by omega, ← hl, List.take_left'] at this
      · rw [← hl]; exact this
      · rfl
    rw [h5]
    generalize cur.toList[n] = z
    rw [List.set_append_right _ _ (by omega), hl]
    simp

theorem cell_one_drew (w : World) (t : TypeId) (x : Value) : ∀ j u, [x][j]? = some u → ((w.alloc (.cells #[x] t)).drew).cell? ((⟨w.heap.size, 0, none⟩ : Addr).add j) = some u := cell_one_new w x t

set_option maxRecDepth 100000 in
set_option maxHeartbeats 2000000 in
theorem specEvalIn_any (w : World) (B : Nat) (A A2 : Option Addr) (n c c2 : Nat) (env : List Int) (l : List (Int × Int)) (hB : B ≤ w.heap.size)
    (hl : TokR w B A n l) (hR : IntR w B A2 5 env) (hbd : ∀ x ∈ env, 0 ≤ x ∧ x ≤ 1000) (v : Int) (hv : Lv.run env l [] = some [v]) (hn : n ≤ 24) (h1 : 1 ≤ n) :
    Calls Tryd.prog 57 #[.slice A n c, .slice A2 5 c2] w fun e w' => e = .returned (.int .i64 v) ∧ Below w.heap.size w w' := by
  obtain ⟨i0, hi, hz0, hz1, hz2⟩ := info_parts info_int
  obtain ⟨b, off, rfl, hb, hc⟩ := hl.2 (by omega)
  obtain ⟨b2, off2, rfl, hb2, hc2⟩ := hR.2 (by omega)
  have HC := Lib.hid hc
  have HC2 := Lib.hid hc2
  have HV := Lib.hid hv
  have HBD := Lib.hid hbd
  have HL := Lib.hid hl.1
  have HS : Hid (AtPile w env l 0 (.slice (some ⟨w.heap.size, 0, none⟩) 0 0) (w.alloc (.cells #[] 3))) :=
    ⟨[], some ⟨w.heap.size, 0, none⟩, 0, by simp [Lv.run], rfl, World.ownsRow_made w #[] 0 (Nat.le_refl _) (by simp [maxLen]) (by simp), by simp, by simp, (Below.refl _ _).alloc (Nat.le_refl _) _⟩
  have hstep : Hid (∀ k, k < n → ∀ st, Lv.run env (l.take k) [] = some st → ∃ st', Lv.step env (l.getD k (0, 0)) st = some st' ∧ Lv.run env (l.take (k + 1)) [] = some st') := by
    intro k hk st hst
    have hr := Lv.run_take_succ env l k (by rw [hl.1]; exact hk) []
    rw [hst, Option.bind_some] at hr
    cases hs : Lv.step env (l.getD k (0, 0)) st with
    | none =>
      rw [hs] at hr
      have := Lv.run_none_of_take hr
      rw [hv] at this
      cases this
    | some st' => exact ⟨st', rfl, by rw [hr, hs]⟩
  clear hc hc2 hv hbd hl hR
  go_enter Tryd.func57, Tryd.ntmps57
  go_wp2
  go_loopw [5, 6] (fun p i wr => ∃ k : Nat, k ≤ n ∧ i = .int .i64 k ∧ AtPile w env l k p wr) (fun _ i _ => n - (intOf i).toNat)
  case atStart => exact ⟨0, Nat.zero_le _, rfl, HS.out⟩
  case round =>
    obtain ⟨k, hk, rfl, st, A, cp, hrun, rfl, hown, hlen, hvb, hbel⟩ := hrel
    have HR := Lib.hid hrun
    have HVB := Lib.hid hvb
    have hszr := hbel.size
    by_cases hlt : k < n
    · obtain ⟨st', hst, hr2⟩ := hstep.out k hlt st hrun
      have HR2 := Lib.hid hr2
      obtain ⟨c1, c2'⟩ := HC.out k hlt
      generalize l.getD k (0, 0) = t at c1 c2' hst
      obtain ⟨op, N⟩ := t
      have k1 := (hbel.cell (p := ⟨b, off + k * 2, none⟩) (by show b < _; omega)).trans c1
      have k2 := (hbel.cell (p := ⟨b, off + k * 2 + 1, none⟩) (by show b < _; omega)).trans c2'
      have hok : Lv.tkOk (op, N) = true := by
        cases h : Lv.tkOk (op, N) with
        | true => rfl
        | false => simp [Lv.step, h] at hst
      have hlen' := Lv.step_len hst
      have hvb' := Lv.step_bd (M := 1000 + (k : Int)) (by omega) (fun x hx => by have := HBD.out x hx; omega) hvb hst
      have HVB' : Hid (∀ x ∈ st', 0 ≤ x ∧ x ≤ 1000 + ((k + 1 : Nat) : Int)) := fun x hx => by have := hvb' x hx; omega
      clear c1 c2' hrun hvb hr2 hvb'
      rcases Lv.tk_cases hok with e | e | e | e | e
      · simp only at e
        subst e
        have hst' : st' = 0 :: st := by simpa [Lv.step, hok, eq_comm] using hst
        subst hst'
        clear hst hok hlen'
        go_wp2_with (at_builtin; refine wpList_append_own _ rfl (.tmp 57) (.tmp 58) 27 rfl w.heap.size 3 i0 (.int .i64 0) 1 8 Tryd.underlying27 hi hz0 hz1 hz2 rfl (by decide) (.slice A st.length cp) st.length (st.reverse.map (Value.int .i64)) rfl (hown.alloc _) ⟨wr.heap.size, 0, none⟩ 1 1 [.int .i64 0] rfl rfl (cell_one_new _ _ _) (fun u hu => by simp at hu; subst hu; rfl) (by unfold maxLen; omega) (by omega) (by simp; omega) ?_; intro v' w1 hown' hgrow _)
        · obtain ⟨g, cap', rfl⟩ : ∃ g cap', v' = .slice (some ⟨g, 0, none⟩) (st.length + 1) cap' := by
            rcases hown'.2 with ⟨_, h⟩ | ⟨g, cap', _, h, _⟩
            · omega
            · exact ⟨g, cap', h⟩
          have HB1 : Hid (Below w.heap.size w w1) := (hbel.alloc hszr _).grown hgrow (by simp; omega) (fun k h => (hown.lt k h).1)
          have HO := Lib.hid hown'
          clear hown hown' hgrow hbel
          go_wp2
          go_roundw
          case rel => exact ⟨k + 1, by omega, by go_num, 0 :: st, some ⟨g, 0, none⟩, cap', HR2.out, rfl, by simpa using HO.out, by simp; omega, HVB'.out, HB1.out⟩
          case measure => simp [intOf]; omega
      · simp only at e
        subst e
        rcases st with _ | ⟨a, s⟩
        · simp [Lv.step, hok] at hst
        · have hst' : st' = (a + 1) :: s := by simpa [Lv.step, hok, eq_comm] using hst
          subst hst'
          have ha := HVB.out a (by simp)
          have ha0 := ha.1
          have ha1 : a ≤ 1000 + k := ha.2
          clear hst hok ha
          obtain ⟨g, rfl, hcap, hgb, ⟨cur, hblk, hcs, _⟩, hcl⟩ := own_head hown (by simp)
          have hcv : wr.cell? ⟨g, s.length, none⟩ = some (.int .i64 a) := hcl s.length _ (by simp)
          have hfz := hblk.thawed s.length
          have HO := Lib.hid (own_last (n := s.length) (xs := s.reverse.map (Value.int .i64)) (x := .int .i64 a) (y := .int .i64 (a + 1)) (by simpa using hown))
          have HB1 := Lib.hid (hbel.setCell (p := ⟨g, s.length, none⟩) hgb (.int .i64 (a + 1)))
          simp only [List.length_cons] at hlen hlen' hcap
          clear hown hblk hcs hcl hbel
          go_wp2
          go_roundw
          case rel => exact ⟨k + 1, by omega, by go_num, (a + 1) :: s, some ⟨g, 0, none⟩, cp, HR2.out, rfl, by simpa using HO.out, by simp; omega, HVB'.out, HB1.out⟩
          case measure => simp [intOf]; omega
      · simp only at e
        subst e
        rcases st with _ | ⟨b1, _ | ⟨a, s⟩⟩
        · simp [Lv.step, hok] at hst
        · simp [Lv.step, hok] at hst
        · obtain ⟨g, rfl, hcap, hgb, _, hcl⟩ := own_head hown (by simp)
          have hca : wr.cell? ⟨g, s.length, none⟩ = some (.int .i64 a) := hcl s.length _ (by simp)
          have hcb : wr.cell? ⟨g, s.length + 1, none⟩ = some (.int .i64 b1) := hcl (s.length + 1) _ (by simp)
          have hp1 := own_pop (n := s.length + 1) (xs := s.reverse.map (Value.int .i64) ++ [.int .i64 a]) (x := .int .i64 b1) (by simpa using hown)
          have hp2 := own_pop (n := s.length) (xs := s.reverse.map (Value.int .i64)) (x := .int .i64 a) hp1
          simp only [List.length_cons] at hlen hlen' hcap
          have hst2 : st' = max a b1 :: s := by simpa [Lv.step, hok, eq_comm] using hst
          have hw2 : IntKind.i64.wrap ((s.length : Int) + 1 + 1 - 2) = (s.length : Int) := by rw [IntKind.wrap_i64]; omega
          have hw1 : IntKind.i64.wrap ((s.length : Int) + 1) = (s.length : Int) + 1 := by rw [IntKind.wrap_i64]; omega
          have hw3 : (0 : Int) ≤ (s.length : Int) + 1 := by omega
          have hw4 : ((s.length : Int) + 1).toNat = s.length + 1 := by omega
          have hx1 : (s.length : Int) < (s.length : Int) + 1 + 1 := by omega
          have hx2 : (s.length : Int) + 1 < (s.length : Int) + 1 + 1 := by omega
          have hx3 : (s.length : Int) < ((s.length + 1 + 1 : Nat) : Int) := by omega
          have hx4 : (s.length : Int) + 1 < ((s.length + 1 + 1 : Nat) : Int) := by omega
          clear hst hcl hp1 hown
          by_cases hab : a < b1
          · obtain rfl : st' = b1 :: s := by rw [hst2]; congr 1; omega
            clear hst2 hok
            have HP : Hid (((wr.alloc (.cells #[.int .i64 b1] 3)).drew).ownsRow w.heap.size 3 1 (.slice (some ⟨g, 0, none⟩) s.length cp) s.length (s.reverse.map (Value.int .i64))) := hp2.alloc _
            have HBD1 := Lib.hid ((hbel.alloc hszr (.cells #[.int .i64 b1] 3)).drew)
            clear hp2 hbel
            go_wp2_with fail
            refine region_tail 10 (by kernel_rfl) (by kernel_rfl) ?_
            simp only [List.take_succ_cons, List.take_zero, List.drop_succ_cons, List.drop_zero]
            repeat still_step
            refine wpStill_nil ?_
            go_wp2_with (at_builtin; refine wpList_append_own _ rfl (.tmp 51) (.tmp 53) 27 rfl w.heap.size 3 i0 (.int .i64 0) 1 8 Tryd.underlying27 hi hz0 hz1 hz2 rfl (by decide) (.slice (some ⟨g, 0, none⟩) s.length cp) s.length (s.reverse.map (Value.int .i64)) rfl HP.out ⟨wr.heap.size, 0, none⟩ 1 1 [.int .i64 b1] rfl rfl (cell_one_drew _ _ _) (fun u hu => by simp at hu; subst hu; rfl) (by unfold maxLen; omega) (by omega) (by simp; omega) ?_; intro v' w1 hown' hgrow _)
            · obtain ⟨g', cap', rfl⟩ : ∃ g' cap', v' = .slice (some ⟨g', 0, none⟩) (s.length + 1) cap' := by
                rcases hown'.2 with ⟨_, h⟩ | ⟨g', cap', _, h, _⟩
                · omega
                · exact ⟨g', cap', h⟩
              have HB1 : Hid (Below w.heap.size w w1) := HBD1.out.grown hgrow (by simp; omega) (fun k h => by have h' : g = k := (by simpa [Value.ownBlock] using h); omega)
              have HO := Lib.hid hown'
              clear hown' hgrow
              go_wp2
              go_roundw
              case rel => exact ⟨k + 1, by omega, by go_num, b1 :: s, some ⟨g', 0, none⟩, cap', HR2.out, rfl, by simpa using HO.out, by simp; omega, HVB'.out, HB1.out⟩
              case measure => simp [intOf]; omega
          · obtain rfl : st' = a :: s := by rw [hst2]; congr 1; omega
            clear hst2 hok
            have HP : Hid (((wr.alloc (.cells #[.int .i64 a] 3)).drew).ownsRow w.heap.size 3 1 (.slice (some ⟨g, 0, none⟩) s.length cp) s.length (s.reverse.map (Value.int .i64))) := hp2.alloc _
            have HBD1 := Lib.hid ((hbel.alloc hszr (.cells #[.int .i64 a] 3)).drew)
            clear hp2 hbel
            go_wp2_with fail
            refine region_tail 10 (by kernel_rfl) (by kernel_rfl) ?_
            simp only [List.take_succ_cons, List.take_zero, List.drop_succ_cons, List.drop_zero]
            repeat still_step
            refine wpStill_nil ?_
            go_wp2_with (at_builtin; refine wpList_append_own _ rfl (.tmp 51) (.tmp 53) 27 rfl w.heap.size 3 i0 (.int .i64 0) 1 8 Tryd.underlying27 hi hz0 hz1 hz2 rfl (by decide) (.slice (some ⟨g, 0, none⟩) s.length cp) s.length (s.reverse.map (Value.int .i64)) rfl HP.out ⟨wr.heap.size, 0, none⟩ 1 1 [.int .i64 a] rfl rfl (cell_one_drew _ _ _) (fun u hu => by simp at hu; subst hu; rfl) (by unfold maxLen; omega) (by omega) (by simp; omega) ?_; intro v' w1 hown' hgrow _)
            · obtain ⟨g', cap', rfl⟩ : ∃ g' cap', v' = .slice (some ⟨g', 0, none⟩) (s.length + 1) cap' := by
                rcases hown'.2 with ⟨_, h⟩ | ⟨g', cap', _, h, _⟩
                · omega
                · exact ⟨g', cap', h⟩
              have HB1 : Hid (Below w.heap.size w w1) := HBD1.out.grown hgrow (by simp; omega) (fun k h => by have h' : g = k := (by simpa [Value.ownBlock] using h); omega)
              have HO := Lib.hid hown'
              clear hown' hgrow
              go_wp2
              go_roundw
              case rel => exact ⟨k + 1, by omega, by go_num, a :: s, some ⟨g', 0, none⟩, cap', HR2.out, rfl, by simpa using HO.out, by simp; omega, HVB'.out, HB1.out⟩
              case measure => simp [intOf]; omega
      · simp only at e
        subst e
        rcases st with _ | ⟨b1, _ | ⟨a, s⟩⟩
        · simp [Lv.step, hok] at hst
        · simp [Lv.step, hok] at hst
        · obtain ⟨g, rfl, hcap, hgb, _, hcl⟩ := own_head hown (by simp)
          have hca : wr.cell? ⟨g, s.length, none⟩ = some (.int .i64 a) := hcl s.length _ (by simp)
          have hcb : wr.cell? ⟨g, s.length + 1, none⟩ = some (.int .i64 b1) := hcl (s.length + 1) _ (by simp)
          have hp1 := own_pop (n := s.length + 1) (xs := s.reverse.map (Value.int .i64) ++ [.int .i64 a]) (x := .int .i64 b1) (by simpa using hown)
          have hp2 := own_pop (n := s.length) (xs := s.reverse.map (Value.int .i64)) (x := .int .i64 a) hp1
          simp only [List.length_cons] at hlen hlen' hcap
          have hst2 : st' = (if b1 = 0 then 0 else max a b1) :: s := by simpa [Lv.step, hok, eq_comm] using hst
          have hw2 : IntKind.i64.wrap ((s.length : Int) + 1 + 1 - 2) = (s.length : Int) := by rw [IntKind.wrap_i64]; omega
          have hw1 : IntKind.i64.wrap ((s.length : Int) + 1) = (s.length : Int) + 1 := by rw [IntKind.wrap_i64]; omega
          have hw3 : (0 : Int) ≤ (s.length : Int) + 1 := by omega
          have hw4 : ((s.length : Int) + 1).toNat = s.length + 1 := by omega
          have hx1 : (s.length : Int) < (s.length : Int) + 1 + 1 := by omega
          have hx2 : (s.length : Int) + 1 < (s.length : Int) + 1 + 1 := by omega
          have hx3 : (s.length : Int) < ((s.length + 1 + 1 : Nat) : Int) := by omega
          have hx4 : (s.length : Int) + 1 < ((s.length + 1 + 1 : Nat) : Int) := by omega
          clear hst hcl hp1 hown
          by_cases hb0 : b1 = 0
          · subst hb0
            obtain rfl : st' = 0 :: s := by rw [hst2]; simp
            clear hst2 hok
            have HP : Hid (((wr.alloc (.cells #[.int .i64 0] 3)).drew).ownsRow w.heap.size 3 1 (.slice (some ⟨g, 0, none⟩) s.length cp) s.length (s.reverse.map (Value.int .i64))) := hp2.alloc _
            have HBD1 := Lib.hid ((hbel.alloc hszr (.cells #[.int .i64 0] 3)).drew)
            clear hp2 hbel
            by_cases hab : a < 0
            · go_wp2_with fail
              refine region_tail 10 (by kernel_rfl) (by kernel_rfl) ?_
              simp only [List.take_succ_cons, List.take_zero, List.drop_succ_cons, List.drop_zero]
              repeat still_step
              refine wpStill_nil ?_
              go_wp2_with (at_builtin; refine wpList_append_own _ rfl (.tmp 51) (.tmp 53) 27 rfl w.heap.size 3 i0 (.int .i64 0) 1 8 Tryd.underlying27 hi hz0 hz1 hz2 rfl (by decide) (.slice (some ⟨g, 0, none⟩) s.length cp) s.length (s.reverse.map (Value.int .i64)) rfl HP.out ⟨wr.heap.size, 0, none⟩ 1 1 [.int .i64 0] rfl rfl (cell_one_drew _ _ _) (fun u hu => by simp at hu; subst hu; rfl) (by unfold maxLen; omega) (by omega) (by simp; omega) ?_; intro v' w1 hown' hgrow _)
              · obtain ⟨g', cap', rfl⟩ : ∃ g' cap', v' = .slice (some ⟨g', 0, none⟩) (s.length + 1) cap' := by
                  rcases hown'.2 with ⟨_, h⟩ | ⟨g', cap', _, h, _⟩
                  · omega
                  · exact ⟨g', cap', h⟩
                have HB1 : Hid (Below w.heap.size w w1) := HBD1.out.grown hgrow (by simp; omega) (fun k h => by have h' : g = k := (by simpa [Value.ownBlock] using h); omega)
                have HO := Lib.hid hown'
                clear hown' hgrow
                go_wp2
                go_roundw
                case rel => exact ⟨k + 1, by omega, by go_num, 0 :: s, some ⟨g', 0, none⟩, cap', HR2.out, rfl, by simpa using HO.out, by simp; omega, HVB'.out, HB1.out⟩
                case measure => simp [intOf]; omega
            · go_wp2_with fail
              refine region_tail 10 (by kernel_rfl) (by kernel_rfl) ?_
              simp only [List.take_succ_cons, List.take_zero, List.drop_succ_cons, List.drop_zero]
              repeat still_step
              refine wpStill_nil ?_
              go_wp2_with (at_builtin; refine wpList_append_own _ rfl (.tmp 51) (.tmp 53) 27 rfl w.heap.size 3 i0 (.int .i64 0) 1 8 Tryd.underlying27 hi hz0 hz1 hz2 rfl (by decide) (.slice (some ⟨g, 0, none⟩) s.length cp) s.length (s.reverse.map (Value.int .i64)) rfl HP.out ⟨wr.heap.size, 0, none⟩ 1 1 [.int .i64 0] rfl rfl (cell_one_drew _ _ _) (fun u hu => by simp at hu; subst hu; rfl) (by unfold maxLen; omega) (by omega) (by simp; omega) ?_; intro v' w1 hown' hgrow _)
              · obtain ⟨g', cap', rfl⟩ : ∃ g' cap', v' = .slice (some ⟨g', 0, none⟩) (s.length + 1) cap' := by
                  rcases hown'.2 with ⟨_, h⟩ | ⟨g', cap', _, h, _⟩
                  · omega
                  · exact ⟨g', cap', h⟩
                have HB1 : Hid (Below w.heap.size w w1) := HBD1.out.grown hgrow (by simp; omega) (fun k h => by have h' : g = k := (by simpa [Value.ownBlock] using h); omega)
                have HO := Lib.hid hown'
                clear hown' hgrow
                go_wp2
                go_roundw
                case rel => exact ⟨k + 1, by omega, by go_num, 0 :: s, some ⟨g', 0, none⟩, cap', HR2.out, rfl, by simpa using HO.out, by simp; omega, HVB'.out, HB1.out⟩
                case measure => simp [intOf]; omega
          · have db0 : (b1 == 0) = false := by simpa using hb0
            by_cases hab : a < b1
            · obtain rfl : st' = b1 :: s := by rw [hst2, if_neg hb0]; congr 1; omega
              clear hst2 hok hb0
              have HP : Hid (((wr.alloc (.cells #[.int .i64 b1] 3)).drew).ownsRow w.heap.size 3 1 (.slice (some ⟨g, 0, none⟩) s.length cp) s.length (s.reverse.map (Value.int .i64))) := hp2.alloc _
              have HBD1 := Lib.hid ((hbel.alloc hszr (.cells #[.int .i64 b1] 3)).drew)
              clear hp2 hbel
              go_wp2_with fail
              refine region_tail 10 (by kernel_rfl) (by kernel_rfl) ?_
              simp only [List.take_succ_cons, List.take_zero, List.drop_succ_cons, List.drop_zero]
              repeat still_step
              refine wpStill_nil ?_
              go_wp2_with (at_builtin; refine wpList_append_own _ rfl (.tmp 51) (.tmp 53) 27 rfl w.heap.size 3 i0 (.int .i64 0) 1 8 Tryd.underlying27 hi hz0 hz1 hz2 rfl (by decide) (.slice (some ⟨g, 0, none⟩) s.length cp) s.length (s.reverse.map (Value.int .i64)) rfl HP.out ⟨wr.heap.size, 0, none⟩ 1 1 [.int .i64 b1] rfl rfl (cell_one_drew _ _ _) (fun u hu => by simp at hu; subst hu; rfl) (by unfold maxLen; omega) (by omega) (by simp; omega) ?_; intro v' w1 hown' hgrow _)
              · obtain ⟨g', cap', rfl⟩ : ∃ g' cap', v' = .slice (some ⟨g', 0, none⟩) (s.length + 1) cap' := by
                  rcases hown'.2 with ⟨_, h⟩ | ⟨g', cap', _, h, _⟩
                  · omega
                  · exact ⟨g', cap', h⟩
                have HB1 : Hid (Below w.heap.size w w1) := HBD1.out.grown hgrow (by simp; omega) (fun k h => by have h' : g = k := (by simpa [Value.ownBlock] using h); omega)
                have HO := Lib.hid hown'
                clear hown' hgrow
                go_wp2
                go_roundw
                case rel => exact ⟨k + 1, by omega, by go_num, b1 :: s, some ⟨g', 0, none⟩, cap', HR2.out, rfl, by simpa using HO.out, by simp; omega, HVB'.out, HB1.out⟩
                case measure => simp [intOf]; omega
            · obtain rfl : st' = a :: s := by rw [hst2, if_neg hb0]; congr 1; omega
              clear hst2 hok hb0
              have HP : Hid (((wr.alloc (.cells #[.int .i64 a] 3)).drew).ownsRow w.heap.size 3 1 (.slice (some ⟨g, 0, none⟩) s.length cp) s.length (s.reverse.map (Value.int .i64))) := hp2.alloc _
              have HBD1 := Lib.hid ((hbel.alloc hszr (.cells #[.int .i64 a] 3)).drew)
              clear hp2 hbel
              go_wp2_with fail
              refine region_tail 10 (by kernel_rfl) (by kernel_rfl) ?_
              simp only [List.take_succ_cons, List.take_zero, List.drop_succ_cons, List.drop_zero]
              repeat still_step
              refine wpStill_nil ?_
              go_wp2_with (at_builtin; refine wpList_append_own _ rfl (.tmp 51) (.tmp 53) 27 rfl w.heap.size 3 i0 (.int .i64 0) 1 8 Tryd.underlying27 hi hz0 hz1 hz2 rfl (by decide) (.slice (some ⟨g, 0, none⟩) s.length cp) s.length (s.reverse.map (Value.int .i64)) rfl HP.out ⟨wr.heap.size, 0, none⟩ 1 1 [.int .i64 a] rfl rfl (cell_one_drew _ _ _) (fun u hu => by simp at hu; subst hu; rfl) (by unfold maxLen; omega) (by omega) (by simp; omega) ?_; intro v' w1 hown' hgrow _)
              · obtain ⟨g', cap', rfl⟩ : ∃ g' cap', v' = .slice (some ⟨g', 0, none⟩) (s.length + 1) cap' := by
                  rcases hown'.2 with ⟨_, h⟩ | ⟨g', cap', _, h, _⟩
                  · omega
                  · exact ⟨g', cap', h⟩
                have HB1 : Hid (Below w.heap.size w w1) := HBD1.out.grown hgrow (by simp; omega) (fun k h => by have h' : g = k := (by simpa [Value.ownBlock] using h); omega)
                have HO := Lib.hid hown'
                clear hown' hgrow
                go_wp2
                go_roundw
                case rel => exact ⟨k + 1, by omega, by go_num, a :: s, some ⟨g', 0, none⟩, cap', HR2.out, rfl, by simpa using HO.out, by simp; omega, HVB'.out, HB1.out⟩
                case measure => simp [intOf]; omega
      · simp only at e
        subst e
        have hN : 0 ≤ N ∧ N < 5 := by simp [Lv.tkOk] at hok; omega
        obtain ⟨hN0, hN5⟩ := hN
        have hst' : st' = env.getD N.toNat 0 :: st := by simpa [Lv.step, hok, eq_comm] using hst
        subst hst'
        have hcv := (hbel.cell (p := ⟨b2, off2 + N.toNat, none⟩) (by show b2 < _; omega)).trans (HC2.out N.toNat (by omega))
        clear hst hok hlen'
        generalize env.getD N.toNat 0 = x at *
        go_wp2_with (at_builtin; refine wpList_append_own _ rfl (.tmp 62) (.tmp 71) 27 rfl w.heap.size 3 i0 (.int .i64 0) 1 8 Tryd.underlying27 hi hz0 hz1 hz2 rfl (by decide) (.slice A st.length cp) st.length (st.reverse.map (Value.int .i64)) rfl (hown.alloc _) ⟨wr.heap.size, 0, none⟩ 1 1 [.int .i64 x] rfl rfl (cell_one_new _ _ _) (fun u hu => by simp at hu; subst hu; rfl) (by unfold maxLen; omega) (by omega) (by simp; omega) ?_; intro v' w1 hown' hgrow _)
        · obtain ⟨g, cap', rfl⟩ : ∃ g cap', v' = .slice (some ⟨g, 0, none⟩) (st.length + 1) cap' := by
            rcases hown'.2 with ⟨_, h⟩ | ⟨g, cap', _, h, _⟩
            · omega
            · exact ⟨g, cap', h⟩
          have HB1 : Hid (Below w.heap.size w w1) := (hbel.alloc hszr _).grown hgrow (by simp; omega) (fun k h => (hown.lt k h).1)
          have HO := Lib.hid hown'
          clear hown hown' hgrow hbel
          go_wp2
          go_roundw
          case rel => exact ⟨k + 1, by omega, by go_num, x :: st, some ⟨g, 0, none⟩, cap', HR2.out, rfl, by simpa using HO.out, by simp; omega, HVB'.out, HB1.out⟩
          case measure => simp [intOf]; omega
    · obtain rfl : k = n := by omega
      have hfin := HV.out
      rw [List.take_of_length_le (by rw [HL.out]; exact Nat.le_refl _)] at hrun
      rw [hrun] at hfin
      obtain rfl : st = [v] := by simpa using hfin
      obtain ⟨g, rfl, hcap, hgb, _, hcl⟩ := own_head hown (by simp)
      have hcv : wr.cell? ⟨g, 0, none⟩ = some (.int .i64 v) := hcl 0 _ (by simp)
      clear hfin hrun hown hcl hvb
      go_wp2
      go_ret
      exact ⟨rfl, hbel⟩

theorem evalR_not_ok {env : List Int} {l : List (Int × Int)} (h : Lv.levelOk l = false) : evalR env l = none := by
  unfold evalR Lv.eval
  simp [h]

end Go.Proofs.YtijiohdddfdjfaaDoor
