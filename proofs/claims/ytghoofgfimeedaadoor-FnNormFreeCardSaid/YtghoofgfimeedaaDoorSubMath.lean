/- Slices of levels: how they are read, substitution in plain lists, levelsOk of the program. -/
/- LevelParams of the program and of the reference model. -/
/- LevelParams of the reference model. -/
/- LevelOff of the program and of the reference model; the law of LevelOff. -/
/- Plain facts on levels: evaluation looks at the parameters alone, and is bounded. -/
/- Plain facts on levels: evaluation behind a substitution. -/
import Derived.Test.YtghoofgfimeedaaDoorJoin
import Derived.Test.YtghoofgfimeedaaDoorNFree2
import Derived.Test.YtghoofgfimeedaaDoorEvalLaw
import Derived.Test.YtghoofgfimeedaaDoorSpecEval

namespace Go.Proofs.YtghoofgfimeedaaDoor
open Go.RowKit

/-- a slice of levels: n cells below block B, each a slice of tokens that lie below B -/
def LvlR (w : World) (B : Nat) (A : Option Addr) (n : Nat) (ls : List (List (Int × Int))) : Prop :=
  ls.length = n ∧ (0 < n → ∃ b off, A = some ⟨b, off, none⟩ ∧ b < B ∧ ∀ k, k < n → ∃ Ak nk ck, w.cell? ⟨b, off + k, none⟩ = some (.slice Ak nk ck) ∧ TokR w B Ak nk (ls.getD k []) ∧ (nk : Int) ≤ 9223372036854775807)

theorem LvlR.below {w w' : World} {B : Nat} {A : Option Addr} {n : Nat} {ls : List (List (Int × Int))} (h : LvlR w B A n ls) (hb : Below B w w') : LvlR w' B A n ls :=
  ⟨h.1, fun h0 => by
    obtain ⟨b, off, rfl, hB, hc⟩ := h.2 h0
    refine ⟨b, off, rfl, hB, fun k hk => ?_⟩
    obtain ⟨Ak, nk, ck, c, t, m⟩ := hc k hk
    exact ⟨Ak, nk, ck, (hb.cell (p := ⟨b, off + k, none⟩) hB).trans c, t.below hb, m⟩⟩
theorem LvlR.more {w : World} {B B' : Nat} {A : Option Addr} {n : Nat} {ls : List (List (Int × Int))} (h : LvlR w B A n ls) (hB : B ≤ B') : LvlR w B' A n ls :=
  ⟨h.1, fun h0 => by
    obtain ⟨b, off, rfl, hb, hc⟩ := h.2 h0
    refine ⟨b, off, rfl, by omega, fun k hk => ?_⟩
    obtain ⟨Ak, nk, ck, c, t, m⟩ := hc k hk
    exact ⟨Ak, nk, ck, c, t.more hB, m⟩⟩

/-- the tokens of all levels together -/
def tot (ls : List (List (Int × Int))) : Nat := (ls.map List.length).sum
def bulk (ls : List (List (Int × Int))) : Nat := ls.length + tot ls
theorem tot_take (ls : List (List (Int × Int))) (k : Nat) (hk : k < ls.length) : tot (ls.take (k + 1)) = tot (ls.take k) + (ls.getD k []).length := by
  unfold tot
  rw [List.take_succ_eq_append_getElem hk, List.map_append, List.sum_append]
  congr 1
  simp [List.getD_eq_getElem?_getD, List.getElem?_eq_getElem hk]
theorem tot_le (ls : List (List (Int × Int))) (k : Nat) : tot (ls.take k) ≤ tot ls := by
  unfold tot
  have h : ls.map List.length = (ls.take k).map List.length ++ (ls.drop k).map List.length := by rw [← List.map_append, List.take_append_drop]
  rw [h, List.sum_append]; exact Nat.le_add_right _ _
theorem tot_get (ls : List (List (Int × Int))) (k : Nat) (hk : k < ls.length) : (ls.getD k []).length ≤ tot ls := by
  have h1 := tot_take ls k hk
  have h2 := tot_le ls (k + 1)
  omega

/-- what stands for one token -/
def piece (ls : List (List (Int × Int))) (t : Int × Int) : Option (List (Int × Int)) := if t.1 = 4 then (if t.2 < (ls.length : Int) then some (ls.getD t.2.toNat []) else none) else some [t]
def sub (ls : List (List (Int × Int))) : List (Int × Int) → Option (List (Int × Int))
  | [] => some []
  | t :: r => (piece ls t).bind fun p => (sub ls r).map fun q => p ++ q
theorem sub_append (ls : List (List (Int × Int))) (a b : List (Int × Int)) : sub ls (a ++ b) = (sub ls a).bind fun p => (sub ls b).map fun q => p ++ q := by
  induction a with
  | nil => simp [sub]
  | cons t r ih =>
    simp only [List.cons_append, sub, ih]
    cases piece ls t with
    | none => rfl
    | some p =>
      cases sub ls r with
      | none => rfl
      | some q => cases sub ls b <;> simp
theorem sub_take {ls : List (List (Int × Int))} {l : List (Int × Int)} {k : Nat} {a p : List (Int × Int)} (hk : k < l.length) (ha : sub ls (l.take k) = some a) (hp : piece ls (l.getD k (0, 0)) = some p) : sub ls (l.take (k + 1)) = some (a ++ p) := by
  have hg : l.getD k (0, 0) = l[k] := by simp [List.getD_eq_getElem?_getD, List.getElem?_eq_getElem hk]
  rw [hg] at hp
  rw [List.take_succ_eq_append_getElem hk, sub_append, ha]
  simp [sub, hp]
theorem sub_none {ls : List (List (Int × Int))} {l : List (Int × Int)} {k : Nat} (hk : k < l.length) (hp : piece ls (l.getD k (0, 0)) = none) : sub ls l = none := by
  have hg : l.getD k (0, 0) = l[k] := by simp [List.getD_eq_getElem?_getD, List.getElem?_eq_getElem hk]
  rw [hg] at hp
  rw [← List.take_append_drop k l, sub_append, List.drop_eq_getElem_cons hk]
  cases sub ls (List.take k l) with
  | none => rfl
  | some a => simp [sub, hp]

/-- LevelSubst's answer -/
def substR (l : List (Int × Int)) (ls : List (List (Int × Int))) : Option (List (Int × Int)) :=
  if Lv.levelOk l = true ∧ ls.all Lv.levelOk = true then (sub ls l).bind ifR else none

theorem hts_all {l : List (Int × Int)} {n m : Int} (h : Lv.hts l n = some m) : ∀ t ∈ l, Lv.tkOk t = true := by
  induction l generalizing n with
  | nil => intro t ht; cases ht
  | cons t r ih =>
    rw [Lv.hts] at h
    by_cases hc : Lv.tkOk t = true ∧ Lv.takes t.1 ≤ n
    · rw [if_pos hc] at h
      intro u hu
      rcases List.mem_cons.1 hu with rfl | hu
      · exact hc.1
      · exact ih h u hu
    · rw [if_neg hc] at h; cases h
/-- a token of a level is right: the number of a parameter is 0 .. 4 -/
theorem ok_tk {l : List (Int × Int)} (h : Lv.levelOk l = true) {k : Nat} (hk : k < l.length) {a b : Int} (hg : l.getD k (0, 0) = (a, b)) : 0 ≤ b ∧ b < 5 := by
  simp only [Lv.levelOk, Bool.and_eq_true, decide_eq_true_eq] at h
  have hm : (a, b) ∈ l := by
    rw [← hg, List.getD_eq_getElem?_getD, List.getElem?_eq_getElem hk]
    exact List.getElem_mem hk
  have := hts_all h.2 _ hm
  simp [Lv.tkOk] at this
  omega
theorem all_get {ls : List (List (Int × Int))} {k : Nat} (h : ls.all Lv.levelOk = true) (hk : k < ls.length) : Lv.levelOk (ls.getD k []) = true := by
  rw [List.getD_eq_getElem?_getD, List.getElem?_eq_getElem hk]
  exact List.all_eq_true.1 h _ (List.getElem_mem hk)
theorem all_of {ls : List (List (Int × Int))} (h : ∀ j, j < ls.length → Lv.levelOk (ls.getD j []) = true) : ls.all Lv.levelOk = true := by
  rw [List.all_eq_true]
  intro x hx
  obtain ⟨i, hi, rfl⟩ := List.mem_iff_getElem.1 hx
  have := h i hi
  rwa [List.getD_eq_getElem?_getD, List.getElem?_eq_getElem hi] at this
theorem not_all {ls : List (List (Int × Int))} {k : Nat} (hk : k < ls.length) (h : Lv.levelOk (ls.getD k []) = false) : ls.all Lv.levelOk = false := by
  cases he : ls.all Lv.levelOk with
  | false => rfl
  | true => rw [all_get he hk] at h; cases h

end Go.Proofs.YtghoofgfimeedaaDoor

namespace Go.Proofs.YtghoofgfimeedaaDoor
open Go.RowKit

/-- the parameters below p that stand in l -/
def prmsTo (l : List (Int × Int)) (p : Nat) : List Int := ((List.range p).filter fun q => decide ((4, ((q : Nat) : Int)) ∈ l)).map Int.ofNat
def prms (l : List (Int × Int)) : List Int := if Lv.levelOk l = true then prmsTo l 5 else []
theorem prmsTo_zero (l : List (Int × Int)) : prmsTo l 0 = [] := rfl
theorem prmsTo_yes {l : List (Int × Int)} {p : Nat} (h : (4, (p : Int)) ∈ l) : prmsTo l (p + 1) = prmsTo l p ++ [(p : Int)] := by
  simp [prmsTo, List.range_succ, List.filter_append, h]
theorem prmsTo_no {l : List (Int × Int)} {p : Nat} (h : (4, (p : Int)) ∉ l) : prmsTo l (p + 1) = prmsTo l p := by
  simp [prmsTo, List.range_succ, List.filter_append, h]
theorem prmsTo_len (l : List (Int × Int)) (p : Nat) : (prmsTo l p).length ≤ p := by
  simp only [prmsTo, List.length_map]
  exact Nat.le_trans (List.length_filter_le _ _) (by simp)

/-- a call gives back a slice of numbers of its own -/
def ResI (w : World) (l : List Int) (e : Ending) (w' : World) : Prop :=
  ∃ A c, e = .returned (.slice A l.length c) ∧ OwnI w' w.heap.size A l.length c l ∧ Below w.heap.size w w'

set_option maxRecDepth 100000 in
set_option maxHeartbeats 1000000 in
theorem implParams_any (w : World) (B : Nat) (A : Option Addr) (n c : Nat) (l : List (Int × Int)) (T : TypeId) (pv : Value) (h0 : 0 < B) (hB : B ≤ w.heap.size)
    (hl : TokR w B A n l) (hn : n ≤ 1048576) (hE : ErrAt w T pv) :
    Calls Tryd.prog 88 #[.slice A n c] w (ResI w (prms l)) := by
  obtain ⟨i0, hi, hz0, hz1, hz2⟩ := info_parts info_int
  cases hok : Lv.levelOk l with
  | false =>
    have HO := Lib.hid hok
    have HP : Hid (prms l = []) := by show _ = _; simp [prms, hok]
    clear hok
    go_enter Tryd.func88, Tryd.ntmps88
    go_wp2_with fail
    refine (levelOk_any w B A n c l T pv h0 hB hl (by omega) hE).mono ?_
    rintro e w1 ⟨rfl, hb1⟩
    rw [HO.out]
    go_wp2
    go_ret
    rw [HP.out]
    exact ⟨none, 0, rfl, World.ownsRow_nil _ _ _ _, hb1⟩
  | true =>
    have HO := Lib.hid hok
    clear hok
    go_enter Tryd.func88, Tryd.ntmps88
    go_wp2_with fail
    refine (levelOk_any w B A n c l T pv h0 hB hl (by omega) hE).mono ?_
    rintro e w1 ⟨rfl, hb1⟩
    rw [HO.out]
    go_wp2
    go_loopw [3, 8] (fun v i wr => ∃ (k : Nat) (A' : Option Addr) (c' : Nat), k ≤ 5 ∧ i = .int .i64 k ∧ v = .slice A' (prmsTo l k).length c' ∧ OwnI wr w.heap.size A' (prmsTo l k).length c' (prmsTo l k) ∧ Below w.heap.size w wr) (fun _ i _ => 5 - (intOf i).toNat)
    case atStart => exact ⟨0, none, 0, by omega, rfl, rfl, World.ownsRow_nil _ _ _ _, hb1⟩
    case round =>
      obtain ⟨k, A', c', hk, rfl, rfl, hown, hbel⟩ := hrel
      have hpl := prmsTo_len l k
      have hszr := hbel.size
      by_cases hlt : k < 5
      · have hlr : TokR wr B A n l := hl.below (hbel.mono hB)
        go_wp2_with fail
        refine (contains_any wr B A n c l 4 k (Nat.le_trans hB hbel.size) hlr hn).mono ?_
        rintro e w2 ⟨rfl, hb2⟩
        have hbel2 : Below w.heap.size w w2 := hbel.trans (hb2.mono hszr)
        have hown2 : OwnI w2 w.heap.size A' (prmsTo l k).length c' (prmsTo l k) := own_below' hown hb2
        have hsz2 := hbel2.size
        by_cases hm : (4, (k : Int)) ∈ l
        · rw [decide_eq_true hm]
          have HS := Lib.hid (prmsTo_yes hm)
          clear hm hown hb2 hbel
          go_wp2_with (at_builtin; refine wpList_append_own _ rfl (.tmp 15) (.tmp 17) 30 rfl w.heap.size 3 i0 (.int .i64 0) 1 8 Tryd.underlying30 hi hz0 hz1 hz2 rfl (by decide) (.slice A' (prmsTo l k).length c') (prmsTo l k).length ((prmsTo l k).map (Value.int .i64)) rfl (hown2.alloc _) ⟨w2.heap.size, 0, none⟩ 1 1 [.int .i64 k] rfl rfl (cell_one_new _ _ _) (fun u hu => by simp at hu; subst hu; rfl) (by unfold maxLen; omega) (by omega) (by simp; omega) ?_; intro v' w3 hown' hgrow _)
          · obtain ⟨g, cap', rfl⟩ : ∃ g cap', v' = .slice (some ⟨g, 0, none⟩) ((prmsTo l k).length + 1) cap' := by
              rcases hown'.2 with ⟨_, h⟩ | ⟨g, cap', _, h, _⟩
              · omega
              · exact ⟨g, cap', h⟩
            have HB1 : Hid (Below w.heap.size w w3) := (hbel2.alloc hsz2 _).grown hgrow (by simp; omega) (fun k h => (hown2.lt k h).1)
            have HW : Hid (OwnI w3 w.heap.size (some ⟨g, 0, none⟩) (prmsTo l (k + 1)).length cap' (prmsTo l (k + 1))) := by
              show OwnI _ _ _ _ _ _
              rw [HS.out]
              simpa [OwnI] using hown'
            have HLn : Hid ((prmsTo l (k + 1)).length = (prmsTo l k).length + 1) := by show _ = _; rw [HS.out]; simp
            clear hown2 hown' hgrow hbel2
            go_wp2
            go_roundw
            case rel => exact ⟨k + 1, some ⟨g, 0, none⟩, cap', by omega, by go_num, by rw [HLn.out], HW.out, HB1.out⟩
            case measure => simp [intOf]; omega
        · rw [decide_eq_false hm]
          have HS := Lib.hid (prmsTo_no hm)
          clear hm hown hb2 hbel
          go_wp2
          go_roundw
          case rel => exact ⟨k + 1, A', c', by omega, by go_num, by rw [HS.out], by rw [HS.out]; exact hown2, hbel2⟩
          case measure => simp [intOf]; omega
      · obtain rfl : k = 5 := by omega
        have HP : Hid (prms l = prmsTo l 5) := by show _ = _; simp [prms, HO.out]
        go_wp2
        go_ret
        rw [HP.out]
        exact ⟨A', c', rfl, hown, hbel⟩
end Go.Proofs.YtghoofgfimeedaaDoor

namespace Go.Proofs.YtghoofgfimeedaaDoor
open Go.RowKit

set_option maxRecDepth 100000 in
set_option maxHeartbeats 1600000 in
theorem specParams_any (w : World) (B : Nat) (A : Option Addr) (n c : Nat) (l : List (Int × Int)) (hB : B ≤ w.heap.size) (hl : TokR w B A n l) (hn : n ≤ 1048576) :
    Calls Tryd.prog 86 #[.slice A n c] w (ResI w (prms l)) := by
  obtain ⟨i0, hi, hz0, hz1, hz2⟩ := info_parts info_int
  have HS0 : Hid (OwnI (w.alloc (.cells #[] 3)) w.heap.size (some ⟨w.heap.size, 0, none⟩) 0 0 []) := World.ownsRow_made w #[] 0 (Nat.le_refl _) (by simp [maxLen]) (by simp)
  have HB0 : Hid (Below w.heap.size w (w.alloc (.cells #[] 3))) := (Below.refl _ _).alloc (Nat.le_refl _) _
  go_enter Tryd.func86, Tryd.ntmps86
  go_wp2
  go_loopw [3, 4] (fun v i wr => ∃ (k : Nat) (A' : Option Addr) (c' : Nat), k ≤ 5 ∧ i = .int .i64 k ∧ v = .slice A' (prmsTo l k).length c' ∧ OwnI wr w.heap.size A' (prmsTo l k).length c' (prmsTo l k) ∧ Below w.heap.size w wr ∧ (Lv.levelOk l = false → k = 0)) (fun _ i _ => 5 - (intOf i).toNat)
  case atStart => exact ⟨0, some ⟨w.heap.size, 0, none⟩, 0, by omega, rfl, rfl, HS0.out, HB0.out, fun _ => rfl⟩
  case round =>
    obtain ⟨k, A', c', hk, rfl, rfl, hown, hbel, hno⟩ := hrel
    have HNO := Lib.hid hno
    clear hno
    have hpl := prmsTo_len l k
    have hszr := hbel.size
    by_cases hlt : k < 5
    · have hlr : TokR wr B A n l := hl.below (hbel.mono hB)
      have d5 : decide ((k : Int) < 5) = true := by simp; omega
      go_wp2_with fail
      refine (specOk_any wr B A n c l (Nat.le_trans hB hbel.size) hlr (by omega)).mono ?_
      rintro e w2 ⟨rfl, hb2⟩
      have hbel2 : Below w.heap.size w w2 := hbel.trans (hb2.mono hszr)
      have hown2 : OwnI w2 w.heap.size A' (prmsTo l k).length c' (prmsTo l k) := own_below' hown hb2
      have hsz2 := hbel2.size
      have hl2 : TokR w2 B A n l := hl.below (hbel2.mono hB)
      clear hown hb2 hbel hlr
      cases hok : Lv.levelOk l with
      | false =>
        have hk0 := HNO.out hok
        have HP : Hid (prms l = prmsTo l k) := by show _ = _; rw [hk0]; simp [prms, hok, prmsTo]
        clear hok hk0
        go_wp2
        go_ret
        rw [HP.out]
        exact ⟨A', c', rfl, hown2, hbel2⟩
      | true =>
        have HOK := Lib.hid hok
        clear hok
        go_wp2
        go_loop [3, 5] (fun v i => ∃ j : Nat, j ≤ n ∧ i = .int .i64 j ∧ v = .slice A' (prmsTo l k).length c' ∧ Hid (∀ q, q < j → l.getD q (0, 0) ≠ (4, (k : Int)))) (fun _ i => n - (intOf i).toNat)
        case atStart => exact ⟨0, Nat.zero_le _, rfl, rfl, fun q hq => absurd hq (by omega)⟩
        case round =>
          obtain ⟨j, hj, rfl, rfl, HA⟩ := hrel
          by_cases hjn : j < n
          · obtain ⟨b1, off, rfl, hb1, hc⟩ := hl2.2 (by omega)
            obtain ⟨x1, x2⟩ := hc j hjn
            obtain ⟨t, ht⟩ : ∃ t, l.getD j (0, 0) = t := ⟨_, rfl⟩
            rw [ht] at x1 x2
            obtain ⟨p, q⟩ := t
            have HT := Lib.hid ht
            have HL := Lib.hid hl.1
            clear hc ht hl hl2
            by_cases heq : (p, q) = (4, (k : Int))
            · injection heq with e1 e2
              subst e1; subst e2
              have hm : (4, (k : Int)) ∈ l := mem_getD (by rw [HL.out]; exact hjn) HT.out
              have HS := Lib.hid (prmsTo_yes hm)
              clear hm
              go_wp2_with (at_builtin; refine wpList_append_own _ rfl (.tmp 28) (.tmp 30) 30 rfl w.heap.size 3 i0 (.int .i64 0) 1 8 Tryd.underlying30 hi hz0 hz1 hz2 rfl (by decide) (.slice A' (prmsTo l k).length c') (prmsTo l k).length ((prmsTo l k).map (Value.int .i64)) rfl (hown2.alloc _) ⟨w2.heap.size, 0, none⟩ 1 1 [.int .i64 k] rfl rfl (cell_one_new _ _ _) (fun u hu => by simp at hu; subst hu; rfl) (by unfold maxLen; omega) (by omega) (by simp; omega) ?_; intro v' w3 hown' hgrow _)
              · obtain ⟨g, cap', rfl⟩ : ∃ g cap', v' = .slice (some ⟨g, 0, none⟩) ((prmsTo l k).length + 1) cap' := by
                  rcases hown'.2 with ⟨_, h⟩ | ⟨g, cap', _, h, _⟩
                  · omega
                  · exact ⟨g, cap', h⟩
                have HB1 : Hid (Below w.heap.size w w3) := (hbel2.alloc hsz2 _).grown hgrow (by simp; omega) (fun k h => (hown2.lt k h).1)
                have HW : Hid (OwnI w3 w.heap.size (some ⟨g, 0, none⟩) (prmsTo l (k + 1)).length cap' (prmsTo l (k + 1))) := by
                  show OwnI _ _ _ _ _ _
                  rw [HS.out]
                  simpa [OwnI] using hown'
                have HLn : Hid ((prmsTo l (k + 1)).length = (prmsTo l k).length + 1) := by show _ = _; rw [HS.out]; simp
                clear hown2 hown' hgrow hbel2
                go_wp2
                go_roundw
                case rel => exact ⟨k + 1, some ⟨g, 0, none⟩, cap', by omega, by go_num, by rw [HLn.out], HW.out, HB1.out, fun h => by rw [HOK.out] at h; cases h⟩
                case measure => simp [intOf]; omega
            · have HA2 : Hid (∀ q, q < j + 1 → l.getD q (0, 0) ≠ (4, (k : Int))) := by
                intro i hi
                by_cases e : i = j
                · subst e; rw [HT.out]; exact heq
                · exact HA.out i (by omega)
              by_cases e1 : p = 4
              · subst e1
                have e2 : (q == (k : Int)) = false := by
                  rw [beq_eq_false_iff_ne]
                  intro h
                  apply heq
                  rw [h]
                clear heq
                go_wp2
                go_round
                case rel => exact ⟨j + 1, by omega, by go_num, rfl, HA2.out⟩
                case measure => simp [intOf]; omega
              · have e2 : (p == 4) = false := by simpa using e1
                clear heq e1
                go_wp2
                go_round
                case rel => exact ⟨j + 1, by omega, by go_num, rfl, HA2.out⟩
                case measure => simp [intOf]; omega
          · obtain rfl : j = n := by omega
            have hm : (4, (k : Int)) ∉ l := not_mem_of (by rw [hl.1]; exact HA.out)
            have HS := Lib.hid (prmsTo_no hm)
            clear hm hl hl2
            go_wp2
            go_roundw
            case rel => exact ⟨k + 1, A', c', by omega, by go_num, by rw [HS.out], by rw [HS.out]; exact hown2, hbel2, fun h => by rw [HOK.out] at h; cases h⟩
            case measure => simp [intOf]; omega
    · obtain rfl : k = 5 := by omega
      have HP : Hid (prms l = prmsTo l 5) := by
        show _ = _
        cases hok : Lv.levelOk l with
        | true => simp [prms, hok]
        | false => have := HNO.out hok; omega
      go_wp2
      go_ret
      rw [HP.out]
      exact ⟨A', c', rfl, hown, hbel⟩
end Go.Proofs.YtghoofgfimeedaaDoor

namespace Go.Proofs.YtghoofgfimeedaaDoor
open Go.RowKit

end Go.Proofs.YtghoofgfimeedaaDoor

namespace Go.Proofs.YtghoofgfimeedaaDoor

theorem step_congr {e1 e2 : List Int} {t : Int × Int} {st : List Int} (h : t.1 = 4 → e1.getD t.2.toNat 0 = e2.getD t.2.toNat 0) : Lv.step e1 t st = Lv.step e2 t st := by
  unfold Lv.step
  by_cases h4 : t.1 = 4
  · rw [h h4]
  · simp [h4]
theorem run_congr {e1 e2 : List Int} {l : List (Int × Int)} (h : ∀ t ∈ l, t.1 = 4 → e1.getD t.2.toNat 0 = e2.getD t.2.toNat 0) : ∀ st, Lv.run e1 l st = Lv.run e2 l st := by
  induction l with
  | nil => intro st; rfl
  | cons t r ih =>
    intro st
    simp only [Lv.run]
    rw [step_congr (h t (List.mem_cons_self ..))]
    congr 1
    funext s
    exact ih (fun u hu => h u (List.mem_cons_of_mem _ hu)) s
theorem eval_congr {e1 e2 : List Int} {l : List (Int × Int)} (h : ∀ t ∈ l, t.1 = 4 → e1.getD t.2.toNat 0 = e2.getD t.2.toNat 0) : Lv.eval e1 l = Lv.eval e2 l := by
  unfold Lv.eval
  rw [run_congr h]

theorem getD_le {env : List Int} {b : Int} (hb : 0 ≤ b) (henv : ∀ x ∈ env, x ≤ b) (i : Nat) : env.getD i 0 ≤ b := by
  rw [List.getD_eq_getElem?_getD]
  cases hg : env[i]? with
  | none => simpa using hb
  | some x => simpa using henv x (List.mem_of_getElem? hg)
theorem step_bound {env : List Int} {t : Int × Int} {st st' : List Int} {b : Int} (hb : 0 ≤ b) (henv : ∀ x ∈ env, x ≤ b) (hst : ∀ x ∈ st, x ≤ b) (h : Lv.step env t st = some st') :
    ∀ x ∈ st', x ≤ b + if t.1 = 1 then 1 else 0 := by
  unfold Lv.step at h
  split at h
  · split at h
    · rename_i h0
      injection h with h
      subst h
      intro x hx
      rw [if_neg (by omega)]
      rcases List.mem_cons.1 hx with rfl | hx
      · omega
      · have := hst x hx; omega
    · split at h
      · rename_i h4
        injection h with h
        subst h
        intro x hx
        rw [if_neg (by omega)]
        rcases List.mem_cons.1 hx with rfl | hx
        · have := getD_le hb henv t.2.toNat; omega
        · have := hst x hx; omega
      · split at h
        · rename_i h1
          rw [if_pos h1]
          cases st with
          | nil => cases h
          | cons a s =>
            simp only at h
            injection h with h
            subst h
            intro x hx
            rcases List.mem_cons.1 hx with rfl | hx
            · have := hst a (List.mem_cons_self ..); omega
            · have := hst x (List.mem_cons_of_mem _ hx); omega
        · rename_i h1
          rw [if_neg h1]
          match st, h with
          | c :: a :: s, h =>
            simp only at h
            injection h with h
            subst h
            intro x hx
            have h2 := hst c (List.mem_cons_self ..)
            have h3 := hst a (List.mem_cons_of_mem _ (List.mem_cons_self ..))
            rcases List.mem_cons.1 hx with rfl | hx
            · split
              · omega
              · omega
            · have := hst x (List.mem_cons_of_mem _ (List.mem_cons_of_mem _ hx)); omega
  · cases h
theorem run_bound {env : List Int} : ∀ (l : List (Int × Int)) (st st' : List Int) (b : Int), 0 ≤ b → (∀ x ∈ env, x ≤ b) → (∀ x ∈ st, x ≤ b) → Lv.run env l st = some st' → ∀ x ∈ st', x ≤ b + succs l := by
  intro l
  induction l with
  | nil =>
    intro st st' b hb henv hst h x hx
    simp only [Lv.run] at h
    injection h with h
    subst h
    have := hst x hx
    simpa [succs] using this
  | cons t r ih =>
    intro st st' b hb henv hst h x hx
    simp only [Lv.run] at h
    cases hs : Lv.step env t st with
    | none => rw [hs] at h; cases h
    | some s =>
      rw [hs, Option.bind_some] at h
      have h1 := step_bound hb henv hst hs
      have hc : succs (t :: r) = succs r + if t.1 = 1 then 1 else 0 := by
        unfold succs
        by_cases e : t.1 = 1 <;> simp [e]
      have h2 := ih s st' (b + if t.1 = 1 then 1 else 0) (by split <;> omega) (fun y hy => by have := henv y hy; split <;> omega) h1 h x hx
      rw [hc]
      omega
theorem eval_bound {env : List Int} {l : List (Int × Int)} {v b : Int} (hb : 0 ≤ b) (henv : ∀ x ∈ env, x ≤ b) (h : Lv.eval env l = some v) : v ≤ b + succs l := by
  unfold Lv.eval at h
  split at h
  · cases hr : Lv.run env l [] with
    | none => rw [hr] at h; cases h
    | some s =>
      rw [hr] at h
      match s, h with
      | [u], h =>
        simp only at h
        injection h with h
        subst h
        exact run_bound l [] [u] b hb henv (fun x hx => by cases hx) hr u (List.mem_cons_self ..)
  · cases h

theorem prms_get {l : List (Int × Int)} {k : Nat} (hk : k < (prms l).length) : ∃ q : Nat, q < 5 ∧ (prms l).getD k 0 = (q : Int) := by
  have hm : (prms l).getD k 0 ∈ prms l := by
    rw [List.getD_eq_getElem?_getD, List.getElem?_eq_getElem hk]
    exact List.getElem_mem hk
  generalize (prms l).getD k 0 = p at hm
  unfold prms at hm
  split at hm
  · unfold prmsTo at hm
    obtain ⟨q, hq, rfl⟩ := List.mem_map.1 hm
    exact ⟨q, List.mem_range.1 (List.mem_filter.1 hq).1, rfl⟩
  · cases hm
theorem prms_mem {l : List (Int × Int)} {q : Nat} (hok : Lv.levelOk l = true) (hq : q < 5) (h : (4, (q : Int)) ∈ l) : ∃ k, k < (prms l).length ∧ (prms l).getD k 0 = (q : Int) := by
  have hm : (q : Int) ∈ prms l := by
    unfold prms
    rw [if_pos hok]
    unfold prmsTo
    refine List.mem_map.2 ⟨q, List.mem_filter.2 ⟨List.mem_range.2 hq, by simpa using h⟩, rfl⟩
  obtain ⟨k, hk, e⟩ := List.mem_iff_getElem.1 hm
  exact ⟨k, hk, by rw [List.getD_eq_getElem?_getD, List.getElem?_eq_getElem hk]; exact e⟩
end Go.Proofs.YtghoofgfimeedaaDoor

namespace Go.Proofs.YtghoofgfimeedaaDoor

theorem step_frame {env : List Int} {t : Int × Int} {s s' : List Int} (st : List Int) (h : Lv.step env t s = some s') : Lv.step env t (s ++ st) = some (s' ++ st) := by
  unfold Lv.step at h ⊢
  by_cases hok : Lv.tkOk t = true
  · rw [if_pos hok] at h ⊢
    by_cases h0 : t.1 = 0
    · rw [if_pos h0] at h ⊢
      injection h with h
      subst h
      rfl
    · rw [if_neg h0] at h ⊢
      by_cases h4 : t.1 = 4
      · rw [if_pos h4] at h ⊢
        injection h with h
        subst h
        rfl
      · rw [if_neg h4] at h ⊢
        by_cases h1 : t.1 = 1
        · rw [if_pos h1] at h ⊢
          match s, h with
          | a :: s, h =>
            simp only [List.cons_append] at h ⊢
            injection h with h
            subst h
            rfl
        · rw [if_neg h1] at h ⊢
          match s, h with
          | b :: a :: s, h =>
            simp only [List.cons_append] at h ⊢
            injection h with h
            subst h
            rfl
  · rw [if_neg hok] at h; cases h
theorem run_frame {env : List Int} : ∀ (l : List (Int × Int)) (s s' st : List Int), Lv.run env l s = some s' → Lv.run env l (s ++ st) = some (s' ++ st) := by
  intro l
  induction l with
  | nil =>
    intro s s' st h
    simp only [Lv.run] at h ⊢
    injection h with h
    rw [h]
  | cons t r ih =>
    intro s s' st h
    simp only [Lv.run] at h ⊢
    cases hq : Lv.step env t s with
    | none => rw [hq] at h; cases h
    | some s1 =>
      rw [hq, Option.bind_some] at h
      rw [step_frame st hq, Option.bind_some]
      exact ih s1 s' st h
/-- the value of the level that stands for parameter p -/
def innerV (env : List Int) (ls : List (List (Int × Int))) (p : Nat) : Int := if p < ls.length then (Lv.eval env (ls.getD p [])).getD 0 else 0

theorem run_sub {env inner : List Int} {ls : List (List (Int × Int))} (hall : ls.all Lv.levelOk = true) (hin : ∀ p, p < 5 → inner.getD p 0 = innerV env ls p) :
    ∀ (l q : List (Int × Int)) (st st' : List Int), (∀ t ∈ l, Lv.tkOk t = true) → sub ls l = some q → Lv.run inner l st = some st' → Lv.run env q st = some st' := by
  intro l
  induction l with
  | nil =>
    intro q st st' _ hs h
    simp only [sub] at hs
    injection hs with hs
    subst hs
    exact h
  | cons t r ih =>
    intro q st st' hok hs h
    simp only [sub] at hs
    cases hp : piece ls t with
    | none => rw [hp] at hs; cases hs
    | some p =>
      rw [hp, Option.bind_some] at hs
      cases hr : sub ls r with
      | none => rw [hr] at hs; cases hs
      | some q' =>
        rw [hr, Option.map_some] at hs
        injection hs with hs
        subst hs
        simp only [Lv.run] at h
        cases hq : Lv.step inner t st with
        | none => rw [hq] at h; cases h
        | some s1 =>
          rw [hq, Option.bind_some] at h
          rw [Lv.run_append]
          have ht := hok t (List.mem_cons_self ..)
          have key : Lv.run env p st = some s1 := by
            unfold piece at hp
            by_cases h4 : t.1 = 4
            · rw [if_pos h4] at hp
              by_cases hb : t.2 < (ls.length : Int)
              · rw [if_pos hb] at hp
                injection hp with hp
                have h05 : 0 ≤ t.2 ∧ t.2 < 5 := by simp [Lv.tkOk] at ht; omega
                have hlt : t.2.toNat < ls.length := by omega
                have hlv := all_get hall hlt
                rw [hp] at hlv
                obtain ⟨v, hv⟩ := Lv.run_of_ok (env := env) hlv
                have hf := run_frame p [] [v] st hv
                simp only [List.nil_append, List.cons_append] at hf
                rw [hf]
                have hs1 : s1 = inner.getD t.2.toNat 0 :: st := by
                  unfold Lv.step at hq
                  rw [if_pos ht, if_neg (by omega), if_pos h4] at hq
                  injection hq with hq
                  exact hq.symm
                rw [hs1, hin t.2.toNat (by omega)]
                unfold innerV
                rw [if_pos hlt, hp]
                unfold Lv.eval
                rw [if_pos hlv, hv]
                rfl
              · rw [if_neg hb] at hp; cases hp
            · rw [if_neg h4] at hp
              injection hp with hp
              subst hp
              simp only [Lv.run]
              rw [step_congr (e2 := inner) (fun h => absurd h h4), hq, Option.bind_some]
          rw [key, Option.bind_some]
          exact ih q' s1 st' (fun u hu => hok u (List.mem_cons_of_mem _ hu)) hr h
theorem eval_sub {env inner : List Int} {ls : List (List (Int × Int))} {l q : List (Int × Int)} (hl : Lv.levelOk l = true) (hall : ls.all Lv.levelOk = true) (hq : Lv.levelOk q = true) (hin : ∀ p, p < 5 → inner.getD p 0 = innerV env ls p) (hs : sub ls l = some q) :
    ∃ v, Lv.eval inner l = some v ∧ Lv.eval env q = some v := by
  obtain ⟨v, hv⟩ := Lv.run_of_ok (env := inner) hl
  have hall' : ∀ t ∈ l, Lv.tkOk t = true := by
    have h := hl
    simp only [Lv.levelOk, Bool.and_eq_true, decide_eq_true_eq] at h
    exact hts_all h.2
  have := run_sub hall hin l q [] [v] hall' hs hv
  exact ⟨v, by unfold Lv.eval; rw [if_pos hl, hv], by unfold Lv.eval; rw [if_pos hq, this]⟩
end Go.Proofs.YtghoofgfimeedaaDoor
