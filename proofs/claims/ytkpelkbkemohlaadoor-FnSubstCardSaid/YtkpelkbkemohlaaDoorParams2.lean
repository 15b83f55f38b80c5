/- LevelParams of the program and of the reference model. -/
import Derived.Test.YtkpelkbkemohlaaDoorParams
namespace Go.Proofs.YtkpelkbkemohlaaDoor
open Go.RowKit

/-- the parameters below p that stand in l -/
def prmsTo (l : List (Int × Int)) (p : Nat) : List Int := ((List.range p).filter fun q => decide ((4, ((q : Nat) : Int)) ∈ l)).map Int.ofNat
def prms (l : List (Int × Int)) : List Int := if Lv.levelOk l = true then prmsTo l 5 else []
theorem prmsTo_zero (l : List (Int × Int)) : prmsTo l 0 = [] := rfl
theorem prmsTo_yes {l : List (Int × Int)} {p : Nat} (h : (4, (p : Int)) ∈ l) : prmsTo l (p + 1) = prmsTo l p ++ [(p : Int)] := by
  simp [prmsTo, List.range_succ, List.filter_append, h]
theorem prmsTo_no {l : List (Int × Int)} {p : Nat} (h : (4, (p : Int)) ∉ l) : prmsTo l (p + 1) = prmsTo l p := by
  simp [prmsTo, List.range_succ, List.filter_append, h]
theorem prmsTo_len (l : List (Int × Int)) (p : Nat) : (prmsTo l p).length ≤ p := by
  simp only [prmsTo, List.length_map]
  exact Nat.le_trans (List.length_filter_le _ _) (by simp)

/-- a call gives back a slice of numbers of its own -/
def ResI (w : World) (l : List Int) (e : Ending) (w' : World) : Prop :=
  ∃ A c, e = .returned (.slice A l.length c) ∧ OwnI w' w.heap.size A l.length c l ∧ Below w.heap.size w w'

set_option maxRecDepth 100000 in
set_option maxHeartbeats 1000000 in
theorem implParams_any (w : World) (B : Nat) (A : Option Addr) (n c : Nat) (l : List (Int × Int)) (T : TypeId) (pv : Value) (h0 : 0 < B) (hB : B ≤ w.heap.size)
    (hl : TokR w B A n l) (hn : n ≤ 1048576) (hE : ErrAt w T pv) :
    Calls Tryd.prog 30 #[.slice A n c] w (ResI w (prms l)) := by
  obtain ⟨i0, hi, hz0, hz1, hz2⟩ := info_parts info_int
  cases hok : Lv.levelOk l with
  | false =>
    have HO := Lib.hid hok
    have HP : Hid (prms l = []) := by show _ = _; simp [prms, hok]
    clear hok
    go_enter Tryd.func30, Tryd.ntmps30
    go_wp2_with fail
    refine (levelOk_any w B A n c l T pv h0 hB hl (by omega) hE).mono ?_
    rintro e w1 ⟨rfl, hb1⟩
    rw [HO.out]
    go_wp2
    go_ret
    rw [HP.out]
    exact ⟨none, 0, rfl, World.ownsRow_nil _ _ _ _, hb1⟩
  | true =>
    have HO := Lib.hid hok
    clear hok
    go_enter Tryd.func30, Tryd.ntmps30
    go_wp2_with fail
    refine (levelOk_any w B A n c l T pv h0 hB hl (by omega) hE).mono ?_
    rintro e w1 ⟨rfl, hb1⟩
    rw [HO.out]
    go_wp2
    go_loopw [3, 8] (fun v i wr => ∃ (k : Nat) (A' : Option Addr) (c' : Nat), k ≤ 5 ∧ i = .int .i64 k ∧ v = .slice A' (prmsTo l k).length c' ∧ OwnI wr w.heap.size A' (prmsTo l k).length c' (prmsTo l k) ∧ Below w.heap.size w wr) (fun _ i _ => 5 - (intOf i).toNat)
    case atStart => exact ⟨0, none, 0, by omega, rfl, rfl, World.ownsRow_nil _ _ _ _, hb1⟩
    case round =>
      obtain ⟨k, A', c', hk, rfl, rfl, hown, hbel⟩ := hrel
      have hpl := prmsTo_len l k
      have hszr := hbel.size
      by_cases hlt : k < 5
      · have hlr : TokR wr B A n l := hl.below (hbel.mono hB)
        go_wp2_with fail
        refine (contains_any wr B A n c l 4 k (Nat.le_trans hB hbel.size) hlr hn).mono ?_
        rintro e w2 ⟨rfl, hb2⟩
        have hbel2 : Below w.heap.size w w2 := hbel.trans (hb2.mono hszr)
        have hown2 : OwnI w2 w.heap.size A' (prmsTo l k).length c' (prmsTo l k) := own_below' hown hb2
        have hsz2 := hbel2.size
        by_cases hm : (4, (k : Int)) ∈ l
        · rw [decide_eq_true hm]
          have HS := Lib.hid (prmsTo_yes hm)
          clear hm hown hb2 hbel
          go_wp2_with (at_builtin; refine wpList_append_own _ rfl (.tmp 15) (.tmp 17) 27 rfl w.heap.size 3 i0 (.int .i64 0) 1 8 Tryd.underlying27 hi hz0 hz1 hz2 rfl (by decide) (.slice A' (prmsTo l k).length c') (prmsTo l k).length ((prmsTo l k).map (Value.int .i64)) rfl (hown2.alloc _) ⟨w2.heap.size, 0, none⟩ 1 1 [.int .i64 k] rfl rfl (cell_one_new _ _ _) (fun u hu => by simp at hu; subst hu; rfl) (by unfold maxLen; omega) (by omega) (by simp; omega) ?_; intro v' w3 hown' hgrow _)
          · obtain ⟨g, cap', rfl⟩ : ∃ g cap', v' = .slice (some ⟨g, 0, none⟩) ((prmsTo l k).length + 1) cap' := by
              rcases hown'.2 with ⟨_, h⟩ | ⟨g, cap', _, h, _⟩
              · omega
              · exact ⟨g, cap', h⟩
            have HB1 : Hid (Below w.heap.size w w3) := (hbel2.alloc hsz2 _).grown hgrow (by simp; omega) (fun k h => (hown2.lt k h).1)
            have HW : Hid (OwnI w3 w.heap.size (some ⟨g, 0, none⟩) (prmsTo l (k + 1)).length cap' (prmsTo l (k + 1))) := by
              show OwnI _ _ _ _ _ _
              rw [HS.out]
              simpa [OwnI] using hown'
            have HLn : Hid ((prmsTo l (k + 1)).length = (prmsTo l k).length + 1) := by show _ = _; rw [HS.out]; simp
            clear hown2 hown' hgrow hbel2
            go_wp2
            go_roundw
            case rel => exact ⟨k + 1, some ⟨g, 0, none⟩, cap', by omega, by go_num, by rw [HLn.out], HW.out, HB1.out⟩
            case measure => simp [intOf]; omega
        · rw [decide_eq_false hm]
          have HS := Lib.hid (prmsTo_no hm)
          clear hm hown hb2 hbel
          go_wp2
          go_roundw
          case rel => exact ⟨k + 1, A', c', by omega, by go_num, by rw [HS.out], by rw [HS.out]; exact hown2, hbel2⟩
          case measure => simp [intOf]; omega
      · obtain rfl : k = 5 := by omega
        have HP : Hid (prms l = prmsTo l 5) := by show _ = _; simp [prms, HO.out]
        go_wp2
        go_ret
        rw [HP.out]
        exact ⟨A', c', rfl, hown, hbel⟩
end Go.Proofs.YtkpelkbkemohlaaDoor
