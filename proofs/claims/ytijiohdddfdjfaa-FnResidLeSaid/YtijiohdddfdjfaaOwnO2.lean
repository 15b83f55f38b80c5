/- Rows of atoms of the call's own that may begin inside their block: how they grow, and how a cell of theirs is written. -/
import Derived.Test.YtijiohdddfdjfaaOwnO
import Derived.Test.YtijiohdddfdjfaaCur4
import Derived.Maps.AppendAt
namespace Go.Proofs.Ytijiohdddfdjfaa
open Go.RowKit

theorem run_append_o (w : World) (ty : TypeId) (i : TypeInfo) (hu : Try.prog.underlying 24 = some (.slice 30)) (hi : Try.prog.info? 30 = some i) (hz : i.zero = some (.agg #[.int .i64 0, .int .i64 0])) (hsize : i.size = 2) (hby : i.bytes = 16)
    (base : Nat) (A : Option Addr) (n c : Nat) (xs : List Value) (hown : OwnO w base A n c xs) (h1n : 1 ≤ n)
    (ad : Addr) (m c2 : Nat) (news : List Value) (hl : news.length = m * 2) (hnews : ∀ j u, news[j]? = some u → w.cell? (ad.add j) = some u) (h1 : ∀ u ∈ news, u.oneCell' = true)
    (h63 : n + m ≤ maxLen) (hbytes : (n + m) * 16 ≤ 140737488355328) (hbase : base ≤ w.heap.size) :
    ∃ g o c' w', (Builtin.append_ #[24, 24] ty #[.slice A n c, .slice (some ad) m c2]).run Try.prog w = .ok (.slice (some ⟨g, o, none⟩) (n + m) c') w' ∧
      OwnO w' base (some ⟨g, o, none⟩) (n + m) c' (xs ++ news) ∧ w.grownBy w' (Value.slice A n c).ownBlock := by
  have hlen : (xs ++ news).length = (n + m) * 2 := by rw [List.length_append, hown.1, hl, Nat.add_mul]
  have hl' : news.length = m * i.size := by rw [hsize]; exact hl
  have hx : xs.length = n * 2 := hown.1
  rcases hown.2 with ⟨_, h0, _⟩ | ⟨g, o, cur, rfl, hb, hblk, hnc, hsz, hxs⟩
  · omega
  · by_cases hroom : n + m ≤ c
    · have hf := run_firstCells_some (P := Try.prog) w i.size m ad m c2 news hl' hnews
      have hst := run_storeCells_at Try.prog g (o + n * 2) 30 news 0 cur w hblk (by rw [hl]; omega) h1
      simp only [Nat.add_zero] at hst
      have hr : (Builtin.append_ #[24, 24] ty #[.slice (some ⟨g, o, none⟩) n c, .slice (some ad) m c2]).run Try.prog w = .ok (.slice (some ⟨g, o, none⟩) (n + m) c) (w.setRow g (cur.toList.take (o + n * 2) ++ news ++ cur.toList.drop (o + n * 2 + news.length)).toArray) := by
        rw [hsize] at hf
        simp [Builtin.append_, run_underlying hu, sizeOf, typeInfo, hi, hsize, Builtin.lenOf, hroom, hf, Addr.add_lit, hst]
      refine ⟨g, o, c, _, hr, ⟨hlen, .inr ⟨g, o, _, rfl, hb, setRow_heap w g cur _ _ _ hblk, hroom, ?_, fun j hj => ?_⟩⟩, ⟨rfl, rfl, rfl, by simp, fun k _ hk => setRow_other w g k _ (fun e => hk (by simp [Value.ownBlock, e]))⟩⟩
      · simp only [List.size_toArray, List.length_append, List.length_take, List.length_drop, Array.length_toList]
        omega
      · have hlt : (cur.toList.take (o + n * 2)).length = o + n * 2 := by rw [List.length_take, Array.length_toList]; omega
        rw [List.getElem?_toArray, List.append_assoc]
        by_cases hjn : j < n * 2
        · rw [List.getElem?_append_left (by omega), List.getElem?_append_left (by omega), List.getElem?_take_of_lt (by omega), Array.getElem?_toList]
          exact hxs j hjn
        · rw [List.getElem?_append_right (by omega), hlt, List.getElem?_append_left (by omega), List.getElem?_append_right (l₁ := xs) (by omega), hx]
          congr 1
          omega
    · have holds : ∀ j u, xs[j]? = some u → w.cell? ((⟨g, o, none⟩ : Addr).add j) = some u := by
        intro j u hu'
        have hj : j < n * 2 := by have := (List.getElem?_eq_some_iff.1 hu').1; omega
        rw [Addr.add_lit, hblk.cell, hxs j hj]
        exact hu'
      have hsmall : n + m ≤ 9223372036854775807 := by simp only [maxLen] at h63; omega
      have hr := run_append_grow (P := Try.prog) w 24 ty 30 i _ hu hi hz ⟨g, o, none⟩ n c xs (by rw [hsize]; exact hx) holds ad m c2 news hl' hnews (by omega) (by omega) (growslice_fits (by omega) (by rw [hby]; exact hbytes))
      have hge := grownCap_ge w (n + m) c 30
      refine ⟨_, _, _, _, hr, ⟨hlen, .inr ⟨w.heap.size, 0, _, rfl, hbase, heap_alloc_new w.drew _, hge, ?_, fun j hj => ?_⟩⟩, ?_⟩
      · have hzc : (Value.agg #[.int .i64 0, .int .i64 0]).cells.size = 2 := rfl
        simp only [Array.size_append, List.size_toArray, size_zeroCells, hzc, hx, hl]
        omega
      · rw [Nat.zero_add, Array.getElem?_append_left (by simp; omega), List.append_toArray, List.getElem?_toArray]
      · exact ⟨rfl, rfl, rfl, by simp, fun k hk _ => Below.heap_alloc w.drew _ k hk⟩

/-- at the list of a plain region's operations -/
theorem wpList_append_o {ops : Array Oper} {rest : List Oper} {oo : Oper} {a : Act} {Q : Exit → Act → World → Prop} (w : World) (hgd : oo.guard = none) (s x : Operand)
    (ho : oo.op = .call { callee := .builtin .append, args := #[s, x], argTypes := #[24, 24] })
    (i : TypeInfo) (hu : Try.prog.underlying 24 = some (.slice 30)) (hi : Try.prog.info? 30 = some i) (hz : i.zero = some (.agg #[.int .i64 0, .int .i64 0])) (hsize : i.size = 2) (hby : i.bytes = 16)
    (base : Nat) (A : Option Addr) (n c : Nat) (xs : List Value) (hs : a.eval s = .slice A n c) (hown : OwnO w base A n c xs) (h1n : 1 ≤ n)
    (ad : Addr) (m c2 : Nat) (news : List Value) (hx : a.eval x = .slice (some ad) m c2) (hl : news.length = m * 2) (hnews : ∀ j u, news[j]? = some u → w.cell? (ad.add j) = some u) (h1 : ∀ u ∈ news, u.oneCell' = true)
    (h63 : n + m ≤ maxLen) (hbytes : (n + m) * 16 ≤ 140737488355328) (hbase : base ≤ w.heap.size)
    (h : ∀ g o c' w', OwnO w' base (some ⟨g, o, none⟩) (n + m) c' (xs ++ news) → w.grownBy w' (Value.slice A n c).ownBlock → wpList Try.prog ops Q rest (a.put oo.dst (.slice (some ⟨g, o, none⟩) (n + m) c')) w') : wpList Try.prog ops Q (oo :: rest) a w :=
  wpList_plain hgd fun _ hK => by
    obtain ⟨g, o, c', w', hr, h2, h3⟩ := run_append_o w oo.type i hu hi hz hsize hby base A n c xs hown h1n ad m c2 news hl hnews h1 h63 hbytes hbase
    unfold Oper.wp execOp
    simp only [ho, resolve, invoke, builtin, Sem.run_bind, Sem.run_pure, Result.andThen_ok, List.map_toArray, List.map_cons, List.map_nil, hs, hx, hr]
    exact hK _ _ (h g o c' w' h2 h3)

theorem at_form {w : World} {base : Nat} {A : Option Addr} {n c : Nat} {xs : List Value} (h : OwnO w base A n c xs) (hn : 1 ≤ n) : ∃ g o, A = some ⟨g, o, none⟩ ∧ base ≤ g ∧ g < w.heap.size := by
  rcases h.2 with ⟨_, h0, _⟩ | ⟨g, o, cur, rfl, hb, hblk, _⟩
  · omega
  · exact ⟨g, o, rfl, hb, hblk.lt⟩
theorem at_spot {w : World} {base g o n c j : Nat} {xs : List Value} (h : OwnO w base (some ⟨g, o, none⟩) n c xs) (hj : j < n * 2) : (∃ v, w.cell? ⟨g, o + j, none⟩ = some v) ∧ w.frozen? ⟨g, o + j, none⟩ = false := by
  have hl := h.1
  rcases h.2 with ⟨h0, _⟩ | ⟨g', o', cur, h0, hb, hblk, hnc, hsz, hxs⟩
  · cases h0
  · injection h0 with h0
    injection h0 with h1 h2
    subst h1; subst h2
    exact ⟨⟨_, (hblk.cell (o + j)).trans (Array.getElem?_eq_getElem (by omega))⟩, hblk.thawed _⟩
theorem at_put {w : World} {base g o n c j : Nat} {l : List (Int × Int)} (h : OwnO w base (some ⟨g, o, none⟩) n c (tokCells l)) (hj : j < n) (v : Int) :
    ∃ l' : List (Int × Int), l'.length = l.length ∧ OwnO (w.setCell ⟨g, o + (j * 2 + 1), none⟩ (.int .i64 v)) base (some ⟨g, o, none⟩) n c (tokCells l') := by
  have hl : l.length = n := by have := h.1; rw [tokCells_len] at this; omega
  refine ⟨l.set j ((l.getD j (0, 0)).1, v), by simp, ?_⟩
  refine ⟨by rw [tokCells_len]; simp [hl], ?_⟩
  rcases h.2 with ⟨h0, _⟩ | ⟨g', o', cur, h0, hb, hblk, hnc, hsz, hxs⟩
  · cases h0
  · injection h0 with h0
    injection h0 with h1 h2
    subst h1; subst h2
    refine .inr ⟨g, o, _, rfl, hb, hblk.put _ _, hnc, by simp [hsz], fun k hk => ?_⟩
    rw [(tokCells_setC l j v (by omega)).2, Array.getElem?_setIfInBounds]
    by_cases e : k = j * 2 + 1
    · subst e
      rw [if_pos rfl, if_pos (by omega), List.getElem?_set_self (by rw [tokCells_len]; omega)]
    · rw [if_neg (by omega), List.getElem?_set_ne (fun e' => e e'.symm)]
      exact hxs k hk
end Go.Proofs.Ytijiohdddfdjfaa
