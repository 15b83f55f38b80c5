/- The draw of NormOf. -/
import Derived.Test.YtgbdojenenfgfaaDrawN4
import Derived.Test.YtgbdojenenfgfaaNOf
import Derived.Test.YtgbdojenenfgfaaFnNo
import Derived.Deep.RegionLaw
namespace Go.Proofs.Ytgbdojenenfgfaa
open Go.RowKit

/-- an append in a region that draws its order, onto a row of the call's own -/
theorem step_append_ownN {P : Program} (w : World) {ops : Array Oper} {o : Oper} {a : Act} {K : Act → World → Prop} {Q : Exit → Act → World → Prop} {E : Prop} (hgd : o.guard = none) (s x : Operand) (t : TypeId)
    (ho : o.op = .call { callee := .builtin .append, args := #[s, x], argTypes := #[t, t] })
    (base : Nat) (e : TypeId) (i : TypeInfo) (z : Value) (size bytes : Nat) (ht : P.underlying t = some (.slice e)) (hi : P.info? e = some i) (hz : i.zero = some z)
    (hsize : i.size = size) (hby : i.bytes = bytes) (hzs : z.cells.size = size) (hsz : 0 < size)
    (v : Value) (n : Nat) (xs : List Value) (hs : a.eval s = v) (hown : w.ownsRow base e size v n xs)
    (ad : Addr) (m c : Nat) (news : List Value) (hx : a.eval x = .slice (some ad) m c) (hl : news.length = m * size) (hnews : ∀ j u, news[j]? = some u → w.cell? (ad.add j) = some u) (h1 : ∀ u ∈ news, u.oneCell' = true)
    (h63 : n + m ≤ maxLen) (hbytes : (n + m) * bytes ≤ 140737488355328) (hbase : base ≤ w.heap.size)
    (h : ∀ v' w', w'.ownsRow base e size v' (n + m) (xs ++ news) → w.grownBy w' v.ownBlock → (v' = .slice none 0 0 ↔ v = .slice none 0 0 ∧ m = 0) → K (a.put o.dst v') w') :
    if Region.wanted o (yielded ops a.tmps) = true then Oper.wp P o a w K Q else E := by
  rw [if_pos (by simp [Region.wanted, hgd])]
  exact wp_append_own w s x t ho base e i z size bytes ht hi hz hsize hby hzs hsz v n xs hs hown ad m c news hx hl hnews h1 h63 hbytes hbase h

def sel3 (i : Nat) (v a b : Int) : Int := if i = 0 then v else if i = 1 then a else b
theorem c3cell (i : Nat) (v a b : Int) (h : i < 3) (X : World) : (X.alloc (.cells #[.int .i64 v, .int .i64 a, .int .i64 b] 3)).cell? ⟨X.heap.size, i, none⟩ = some (.int .i64 (sel3 i v a b)) := by
  rw [(Blk.made X 3 _).cell i]
  rcases (show i = 0 ∨ i = 1 ∨ i = 2 by omega) with rfl | rfl | rfl <;> rfl
theorem alc {X : World} {g i : Nat} {v : Value} (h : X.cell? ⟨g, i, none⟩ = some v) (o : Obj) : (X.alloc o).cell? ⟨g, i, none⟩ = some v :=
  (((Below.refl X.heap.size X).alloc (Nat.le_refl _) o).cell (p := ⟨g, i, none⟩) (World.block_lt_of_cell? X _ h)).trans h
theorem c3cellA (i : Nat) (v a b : Int) (h : i < 3) (X : World) (o : Obj) : ((X.alloc (.cells #[.int .i64 v, .int .i64 a, .int .i64 b] 3)).alloc o).cell? ⟨X.heap.size, i, none⟩ = some (.int .i64 (sel3 i v a b)) := alc (c3cell i v a b h X) o
theorem c3cellB (i : Nat) (v a b : Int) (h : i < 3) (X : World) (o : Obj) : ((X.alloc o).alloc (.cells #[.int .i64 v, .int .i64 a, .int .i64 b] 3)).cell? ⟨X.heap.size + 1, i, none⟩ = some (.int .i64 (sel3 i v a b)) := by
  have := c3cell i v a b h (X.alloc o)
  rw [World.size_alloc] at this
  exact this
theorem kp_cellN {bc g i : Nat} {a b : World} {v : Value} (hk : Kp bc a b) (hc : a.cell? ⟨g, i, none⟩ = some v) (hne : g ≠ bc) : b.cell? ⟨g, i, none⟩ = some v :=
  (World.grownBy.cell_far hk ⟨g, i, none⟩ (World.block_lt_of_cell? a _ hc) (fun he => by injection he with he; exact hne he)).trans hc
theorem newsA1 (X : World) (p x : Int) : ∀ j u, [Value.int .i64 p, .int .i64 x][j]? = some u → (X.alloc (.cells #[.int .i64 p, .int .i64 x] 32)).cell? ((⟨X.heap.size, 0, none⟩ : Addr).add j) = some u :=
  World.news_of_block (cs := #[.int .i64 p, .int .i64 x]) (t := 32) (fr := (0, 0)) (heap_alloc_new X _)
theorem newsA2 (X : World) (o : Obj) (p x : Int) : ∀ j u, [Value.int .i64 p, .int .i64 x][j]? = some u → ((X.alloc o).alloc (.cells #[.int .i64 p, .int .i64 x] 32)).cell? ((⟨X.heap.size + 1, 0, none⟩ : Addr).add j) = some u := by
  have := newsA1 (X.alloc o) p x
  rw [World.size_alloc] at this
  exact this
theorem newsA3 (X : World) (o o' : Obj) (p x : Int) : ∀ j u, [Value.int .i64 p, .int .i64 x][j]? = some u → (((X.alloc o).alloc o').alloc (.cells #[.int .i64 p, .int .i64 x] 32)).cell? ((⟨X.heap.size + 1 + 1, 0, none⟩ : Addr).add j) = some u := by
  have := newsA2 (X.alloc o) o' p x
  rw [World.size_alloc] at this
  exact this
theorem own_formN {w : World} {base : Nat} {e : TypeId} {size n : Nat} {v : Value} {xs : List Value} (h : w.ownsRow base e size v n xs) (hn : 0 < n) : ∃ g c, v = .slice (some ⟨g, 0, none⟩) n c := by
  rcases h.2 with ⟨_, h0⟩ | ⟨g, c, _, hv, _⟩
  · omega
  · exact ⟨g, c, hv⟩

theorem make_atoms (n : Nat) (hn : n ≤ 1000) : ∀ wx, (Instr.makeSlice 24 (.int .i64 (n : Int)) (.int .i64 (n : Int))).run Try.prog wx = .ok (.slice (some ⟨wx.heap.size, 0, none⟩) n n) (wx.alloc (.cells (madeCells (Value.agg #[.int .i64 0, .int .i64 0]).cells (n * 2)) 32)) := by
  obtain ⟨i0, hi, hz0, hz1, hz2⟩ := info_parts info_atom
  intro wx
  have hr := run_make (P := Try.prog) wx 24 32 i0 _ Try.underlying24 hi hz0 .i64 .i64 n n (by omega) (by omega) (by rw [hz2]; omega) (by omega)
  simp only [Int.toNat_natCast, hz1] at hr
  exact hr

set_option maxRecDepth 100000 in
set_option maxHeartbeats 16000000 in
theorem drawNormOf_any : DrawsList := by
  intro w B A n c hB hb hn
  obtain ⟨i0, hi, hz0, hz1, hz2⟩ := info_parts info_atom
  go_enter Try.func12, Try.ntmps12
  go_wp2_with fail
  refine (open_any w B A n c hB hb hn).mono ?_
  rintro e w1 ⟨rfl, hb1, hc1⟩
  have hs1 := hb1.size
  have hlt := hc1.lt
  have HO1 : Hid (OwnA (w1.alloc (.cells #[] 32)) w1.heap.size (some ⟨w1.heap.size, 0, none⟩) 0 0 []) := World.ownsRow_made w1 #[] 0 (Nat.le_refl _) (by simp [maxLen]) (by simp)
  go_wp2_with fail
  refine (size8_any _ w.heap.size A n c 0 (hc1.alloc _) (by omega) hn).mono ?_
  rintro e w2 ⟨r, rfl, hr8, hc2, hk2⟩
  have HO2 := Lib.hid (Kp.own HO1.out hk2 hlt)
  have HK2 := Lib.hid (((Kp.refl w.heap.size w1).alloc (.cells #[] 32)).trans hk2)
  have HC2 := Lib.hid hc2
  clear hk2 hc1 hc2 HO1
  go_wp2
  go_loopw [4, 5] (fun v i wr => ∃ (j g cap : Nat) (m : List (Int × Int)), j ≤ 8 ∧ i = .int .i64 j ∧ v = .slice (some ⟨g, 0, none⟩) m.length cap ∧ m.length + j ≤ 8 ∧ OwnA wr w1.heap.size (some ⟨g, 0, none⟩) m.length cap m ∧ Cur wr w.heap.size A n c (17 - 2 * j) ∧ Kp w.heap.size w1 wr) (fun _ i _ => (intOf i).toNat)
  case atStart => exact ⟨r, w1.heap.size, 0, [], hr8, rfl, rfl, by simp; omega, HO2.out, HC2.out.more (by omega), HK2.out⟩
  case round =>
    obtain ⟨j, g, cap, m, hj, rfl, rfl, hm8, hown, hcr, hkr⟩ := hrel
    have hsr := hkr.size
    obtain ⟨M, hM⟩ : ∃ M, m.length = M := ⟨_, rfl⟩
    rw [hM] at hm8 hown ⊢
    have HM := Lib.hid hM
    clear hM
    by_cases hj0 : 0 < j
    · have hji : (0 : Int) < (j : Int) := by omega
      go_wp2_with fail
      refine (atom_any wr w.heap.size A n c _ hcr (by omega) hn).mono ?_
      rintro e w3 ⟨p3, x3, rfl, hpx, hc3, hk3⟩
      have ho3 := Kp.own hown hk3 hlt
      have hk03 := hkr.trans hk3
      have hs3 := hk03.size
      clear hk3 hcr hkr hown hpx
      go_wp2_with (at_builtin; first
        | (refine wpList_append_own _ rfl (.tmp 15) (.tmp 18) 24 rfl w1.heap.size 32 i0 (.agg #[.int .i64 0, .int .i64 0]) 2 16 Try.underlying24 hi hz0 hz1 hz2 rfl (by decide) (.slice (some ⟨g, 0, none⟩) M cap) M (tokCells m) rfl (ho3.alloc _) ⟨w3.heap.size, 0, none⟩ 1 1 [.int .i64 p3, .int .i64 x3] rfl rfl (World.news_of_block (cs := #[.int .i64 p3, .int .i64 x3]) (t := 32) (fr := (0, 0)) (heap_alloc_new w3 _)) (by intro v hv; simp at hv; rcases hv with rfl | rfl <;> rfl) (by unfold maxLen; omega) (by omega) (by simp; omega) ?_
           intro v' w4 hown' hgrow _
           obtain ⟨g4, cap4, rfl⟩ := own_formN hown' (by omega)
           have HLN : Hid ((m ++ [(p3, x3)]).length = M + 1) := by show _ = _; rw [List.length_append, HM.out]; rfl
           have HW4 : Hid (OwnA w4 w1.heap.size (some ⟨g4, 0, none⟩) (M + 1) cap4 (m ++ [(p3, x3)])) := by
             show OwnA _ _ _ _ _ _
             unfold OwnA
             rw [tokCells_append]
             exact hown'
           have HC4 := Lib.hid ((hc3.alloc _).grown hgrow (fun k h => by have := (ho3.lt k h).1; omega))
           have HK4 := Lib.hid ((hk03.alloc _).more hgrow (fun k h => (ho3.lt k h).1))
           clear hown' hgrow ho3 hc3 hk03))
      go_wp2
      go_roundw
      case rel => exact ⟨j - 1, g4, cap4, m ++ [(p3, x3)], by omega, by congr 1; omega, by rw [HLN.out], by rw [HLN.out]; omega, by rw [HLN.out]; exact HW4.out, HC4.out.more (by omega), HK4.out⟩
      case measure => simp [intOf]; omega
    · obtain rfl : j = 0 := by omega
      go_wp2_with fail
      refine (pick_any wr w.heap.size A n c _ 12 hcr (by omega) (by omega) hn).mono ?_
      rintro e w6 ⟨q, rfl, hq, hc6, hk6⟩
      have ho6 := Kp.own hown hk6 hlt
      have hk06 := hkr.trans hk6
      have hs6 := hk06.size
      clear hk6 hcr hkr hown
      by_cases q0 : q = 0
      · subst q0
        have hc0 : Cur w6.drew w.heap.size A n c 18 := hc6
        have ho0 := World.ownsRow.drew ho6
        have hk0 : Kp w.heap.size w1 w6.drew := hk06.drew
        obtain ⟨bc, hbc⟩ : ∃ bc, w.heap.size = bc := ⟨_, rfl⟩
        rw [hbc] at hc0 hk0 hlt
        rw [hbc]
        clear hc6 ho6 hq
        go_wp2_with fail
        go_region_law (first
          | (refine step_append_ownN _ (by rfl) _ _ _ (by rfl) w1.heap.size 32 i0 _ 2 16 Try.underlying24 hi hz0 hz1 hz2 rfl (by omega) (.slice (some ⟨g, 0, none⟩) M cap) M (tokCells m) (by rfl) ?hown ⟨wd.heap.size, 0, none⟩ 1 1 [.int .i64 (sel3 rb va 4 5), .int .i64 (sel3 rd vc 1000 1001)] (by rfl) rfl ?hnews (by intro v hv; simp at hv; rcases hv with rfl | rfl <;> rfl) (by unfold maxLen; omega) (by omega) ?hbase ?_
             case hown => exact hod.alloc _
             case hnews => exact newsA1 _ _ _
             case hbase => simp; omega
             intro v' w5 hown' hgrow _
             have hk5 : Kp bc w1 w5 := (hkD.alloc _).more hgrow (fun k h => (hod.lt k h).1))
          | (refine step_append_ownN _ (by rfl) _ _ _ (by rfl) w1.heap.size 32 i0 _ 2 16 Try.underlying24 hi hz0 hz1 hz2 rfl (by omega) (.slice (some ⟨g, 0, none⟩) M cap) M (tokCells m) (by rfl) ?hown ⟨wd.heap.size + 1, 0, none⟩ 1 1 [.int .i64 (sel3 rb va 4 5), .int .i64 (sel3 rd vc 1000 1001)] (by rfl) rfl ?hnews (by intro v hv; simp at hv; rcases hv with rfl | rfl <;> rfl) (by unfold maxLen; omega) (by omega) ?hbase ?_
             case hown => exact (hod.alloc _).alloc _
             case hnews => exact newsA2 _ _ _ _
             case hbase => simp; omega
             intro v' w5 hown' hgrow _
             have hk5 : Kp bc w1 w5 := ((hkD.alloc _).alloc _).more hgrow (fun k h => (hod.lt k h).1))
          | (refine step_append_ownN _ (by rfl) _ _ _ (by rfl) w1.heap.size 32 i0 _ 2 16 Try.underlying24 hi hz0 hz1 hz2 rfl (by omega) (.slice (some ⟨g, 0, none⟩) M cap) M (tokCells m) (by rfl) ?hown ⟨wd.heap.size + 1 + 1, 0, none⟩ 1 1 [.int .i64 (sel3 rb va 4 5), .int .i64 (sel3 rd vc 1000 1001)] (by rfl) rfl ?hnews (by intro v hv; simp at hv; rcases hv with rfl | rfl <;> rfl) (by unfold maxLen; omega) (by omega) ?hbase ?_
             case hown => exact ((hod.alloc _).alloc _).alloc _
             case hnews => exact newsA3 _ _ _ _ _
             case hbase => simp; omega
             intro v' w5 hown' hgrow _
             have hk5 : Kp bc w1 w5 := (((hkD.alloc _).alloc _).alloc _).more hgrow (fun k h => (hod.lt k h).1))
          | (go_simp; go_at_call 41; refine (raw_any _ bc A n c 18 ?_ (by omega) hn).mono ?_; exact hc0; rintro e wa ⟨va, rfl, hca, hka⟩
             have hla := hca.lt
             have hoa := Kp.own ho0 hka hlt
             have hkA := hk0.trans hka)
          | (go_simp; go_at_call 40; refine (pick_any _ bc A n c 20 3 ?_ (by omega) (by omega) hn).mono ?_; (first | exact hca | exact hca.alloc _); rintro e wb ⟨rb, rfl, hrb, hcb, hkb⟩
             have hlb := hcb.lt
             have hrb3 : rb < 3 := by omega
             have hrbi : (rb : Int) < 3 := by omega
             have hU := c3cell rb va 4 5 hrb3
             have hUA := c3cellA rb va 4 5 hrb3
             have hUB := c3cellB rb va 4 5 hrb3
             have hob : OwnA wb w1.heap.size (some ⟨g, 0, none⟩) M cap m := by first | exact Kp.own hoa hkb hlt | exact Kp.own (World.ownsRow.alloc hoa _) hkb hlt
             have hkB : Kp bc w1 wb := by first | exact hkA.trans hkb | exact (hkA.alloc _).trans hkb
             try (have hF2 := kp_cellN hkb (hU wa) (by omega)))
          | (go_simp; go_at_call 41; refine (raw_any _ bc A n c 21 ?_ (by omega) hn).mono ?_; (first | exact hcb | exact hcb.alloc _); rintro e wc ⟨vc, rfl, hcc, hkc⟩
             have hlc := hcc.lt
             have hoc : OwnA wc w1.heap.size (some ⟨g, 0, none⟩) M cap m := by first | exact Kp.own hob hkc hlt | exact Kp.own (World.ownsRow.alloc hob _) hkc hlt
             have hkC : Kp bc w1 wc := by first | exact hkB.trans hkc | exact (hkB.alloc _).trans hkc
             try (have hF3 := kp_cellN hkc hF2 (by omega))
             try (have hF3 := kp_cellN hkc (hU wb) (by omega))
             try (have hF3a := alc hF3))
          | (go_simp; go_at_call 40; refine (pick_any _ bc A n c 23 3 ?_ (by omega) (by omega) hn).mono ?_; (first | exact hcc | exact hcc.alloc _ | exact (hcc.alloc _).alloc _); rintro e wd ⟨rd, rfl, hrd, hcd, hkd⟩
             have hld := hcd.lt
             have hrd3 : rd < 3 := by omega
             have hrdi : (rd : Int) < 3 := by omega
             have hV := c3cell rd vc 1000 1001 hrd3
             have hVA := c3cellA rd vc 1000 1001 hrd3
             have hVB := c3cellB rd vc 1000 1001 hrd3
             have hod : OwnA wd w1.heap.size (some ⟨g, 0, none⟩) M cap m := by first | exact Kp.own hoc hkd hlt | exact Kp.own (World.ownsRow.alloc hoc _) hkd hlt | exact Kp.own (World.ownsRow.alloc (World.ownsRow.alloc hoc _) _) hkd hlt
             have hkD : Kp bc w1 wd := by first | exact hkC.trans hkd | exact (hkC.alloc _).trans hkd | exact ((hkC.alloc _).alloc _).trans hkd
             have hsd := hkD.size
             try (have hF4 := kp_cellN hkd hF3 (by omega))
             try (have hF4 := kp_cellN hkd (hF3a _) (by omega))
             try (have hF4 := kp_cellN hkd (hU wc) (by omega))
             try (have hF4 := kp_cellN hkd (hUA wc _) (by omega))
             try (have hF4 := kp_cellN hkd (hUB wc _) (by omega))
             try (have hG4 := kp_cellN hkd (hV wc) (by omega))
             try (have hG4 := kp_cellN hkd (hVA wc _) (by omega))
             try (have hG4 := kp_cellN hkd (hVB wc _) (by omega))
             try (have hF4a := alc hF4)
             try (have hG4a := alc hG4)))
        all_goals
          obtain ⟨g5, cap5, rfl⟩ := own_formN hown' (by omega)
          have HLN : Hid ((m ++ [(sel3 rb va 4 5, sel3 rd vc 1000 1001)]).length = M + 1) := by show _ = _; rw [List.length_append, HM.out]; rfl
          have HW5 : Hid (OwnA w5 w.heap.size (some ⟨g5, 0, none⟩) (M + 1) cap5 (m ++ [(sel3 rb va 4 5, sel3 rd vc 1000 1001)])) := by
            show OwnA _ _ _ _ _ _
            refine own_base (base := w1.heap.size) ?_ hs1
            rw [tokCells_append]
            exact hown'
          have HB5 := Lib.hid (Kp.below hb1 hk5 (by omega) hs1)
          clear hown' hgrow hk5
          go_wp2
          go_ret
          exact ⟨g5, cap5, _, by rw [HLN.out]; rfl, by rw [HLN.out]; omega, by rw [HLN.out]; exact HW5.out, HB5.out⟩
      · by_cases q1 : q = 1
        · subst q1
          go_wp2_with fail
          refine (pick_any w6 w.heap.size A n c _ 2 hc6 (by omega) (by omega) hn).mono ?_
          rintro e w7 ⟨r2, rfl, hr2, hc7, hk7⟩
          have hk07 := hk06.trans hk7
          have hs7 := hk07.size
          have HB7 := Lib.hid (Kp.below hb1 hk07 (Nat.le_refl _) hs1)
          have hsz := HB7.out.size
          clear hk7 hc6 hc7 hk06 ho6
          rcases (show r2 = 0 ∨ r2 = 1 by omega) with rfl | rfl
          · have HW : Hid (OwnA (w7.alloc (.cells (madeCells (Value.agg #[.int .i64 0, .int .i64 0]).cells (100 * 2)) 32)) w.heap.size (some ⟨w7.heap.size, 0, none⟩) 100 100 (List.replicate 100 (0, 0))) := ⟨rfl, .inr ⟨w7.heap.size, 100, _, rfl, hsz, Blk.made _ _ _, Nat.le_refl _, by simp [maxLen], size_madeCells _ _, by kernel_rfl⟩⟩
            have HB8 := Lib.hid (HB7.out.alloc hsz (.cells (madeCells (Value.agg #[.int .i64 0, .int .i64 0]).cells (100 * 2)) 32))
            have hmk : ∀ wx, (Instr.makeSlice 24 (.int .i64 100) (.int .i64 100)).run Try.prog wx = .ok (.slice (some ⟨wx.heap.size, 0, none⟩) 100 100) (wx.alloc (.cells (madeCells (Value.agg #[.int .i64 0, .int .i64 0]).cells (100 * 2)) 32)) := make_atoms 100 (by omega)
            go_wp2
            go_ret
            exact ⟨w7.heap.size, 100, List.replicate 100 (0, 0), by rw [List.length_replicate]; rfl, by rw [List.length_replicate]; omega, by rw [List.length_replicate]; exact HW.out, HB8.out⟩
          · have HW : Hid (OwnA (w7.alloc (.cells (madeCells (Value.agg #[.int .i64 0, .int .i64 0]).cells (101 * 2)) 32)) w.heap.size (some ⟨w7.heap.size, 0, none⟩) 101 101 (List.replicate 101 (0, 0))) := ⟨rfl, .inr ⟨w7.heap.size, 101, _, rfl, hsz, Blk.made _ _ _, Nat.le_refl _, by simp [maxLen], size_madeCells _ _, by kernel_rfl⟩⟩
            have HB8 := Lib.hid (HB7.out.alloc hsz (.cells (madeCells (Value.agg #[.int .i64 0, .int .i64 0]).cells (101 * 2)) 32))
            have hmk : ∀ wx, (Instr.makeSlice 24 (.int .i64 101) (.int .i64 101)).run Try.prog wx = .ok (.slice (some ⟨wx.heap.size, 0, none⟩) 101 101) (wx.alloc (.cells (madeCells (Value.agg #[.int .i64 0, .int .i64 0]).cells (101 * 2)) 32)) := make_atoms 101 (by omega)
            go_wp2
            go_ret
            exact ⟨w7.heap.size, 101, List.replicate 101 (0, 0), by rw [List.length_replicate]; rfl, by rw [List.length_replicate]; omega, by rw [List.length_replicate]; exact HW.out, HB8.out⟩
        · have d0 : ((q : Int) == 0) = false := by simp; omega
          have d1 : ((q : Int) == 1) = false := by simp; omega
          have HW := Lib.hid (own_base (base' := w.heap.size) ho6 hs1)
          have HB6 := Lib.hid (Kp.below hb1 hk06 (Nat.le_refl _) hs1)
          clear q0 q1 hc6 ho6 hk06
          go_wp2
          go_ret
          exact ⟨g, cap, m, by rw [HM.out]; rfl, by rw [HM.out]; omega, by rw [HM.out]; exact HW.out, HB6.out⟩
end Go.Proofs.Ytgbdojenenfgfaa
