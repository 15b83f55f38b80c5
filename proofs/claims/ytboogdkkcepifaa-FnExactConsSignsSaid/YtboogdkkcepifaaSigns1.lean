/- ConsSigns of the reference model. -/
import Derived.Test.YtboogdkkcepifaaSigned
import Derived.Test.YtboogdkkcepifaaCore1
namespace Go.Proofs.Ytboogdkkcepifaa
open Go.RowKit
open Cs (Cn Tb)

/-- a sign that the list excludes -/
def gS (l : List Cn) (S : Nat) : Bool := !Cs.flat (Cs.signed l fun p => Sg.has (S : Int) (p : Int))
/-- the answer of ConsSigns -/
def signsR (l : List Cn) : List Int := if consOkR l = true then natI (Cs.foundI (gS l) 32) else []
theorem signsR_len (l : List Cn) : (signsR l).length ≤ 1000 := by
  unfold signsR
  split
  · rw [natI_len]
    have := Cs.foundI_len (gS l) 32
    omega
  · simp

set_option maxRecDepth 100000 in
set_option maxHeartbeats 3200000 in
theorem specConsSigns_any (w : World) (B b off n c : Nat) (l : List Cn) (hB : B ≤ w.heap.size) (hl : ConR w B (some ⟨b, off, none⟩) n l) (hn : (n : Int) ≤ 140737488355328) :
    Calls Try.prog 54 #[.slice (some ⟨b, off, none⟩) n c] w fun e w' => ∃ Ao co, e = .returned (.slice Ao (signsR l).length co) ∧ OwnI w' w.heap.size Ao (signsR l).length co (signsR l) ∧ Below w.heap.size w w' := by
  obtain ⟨i0, hi, hz0, hz1, hz2⟩ := info_parts info_int
  have HO0 : Hid (OwnI (w.alloc (.cells #[] 3)) w.heap.size (some ⟨w.heap.size, 0, none⟩) 0 0 (natI (Cs.foundI (gS l) 0))) := World.ownsRow_made w #[] 0 (Nat.le_refl _) (by simp [maxLen]) (by simp)
  have HB0 : Hid (Below w.heap.size w (w.alloc (.cells #[] 3))) := (Below.refl _ _).alloc (Nat.le_refl _) _
  have HL := Lib.hid hl
  clear hl
  go_enter Try.func54, Try.ntmps54
  go_wp2
  go_loopw [3, 4] (fun v i wr => ∃ (k m g2 c2 : Nat), k ≤ 32 ∧ i = .int .i64 k ∧ v = .slice (some ⟨g2, 0, none⟩) m c2 ∧ m ≤ k ∧ (0 < k → consOkR l = true) ∧ Hid (OwnI wr w.heap.size (some ⟨g2, 0, none⟩) m c2 (natI (Cs.foundI (gS l) k))) ∧ Hid (Below w.heap.size w wr)) (fun _ i _ => 32 - (intOf i).toNat)
  case atStart => exact ⟨0, 0, w.heap.size, 0, by omega, rfl, rfl, by omega, fun h => absurd h (by omega), HO0.out, HB0.out⟩
  case round =>
    clear HO0 HB0
    obtain ⟨k, m, g2, c2, hk, rfl, rfl, hmk, hpos, HO, HB⟩ := hrel
    have hszr := HB.out.size
    have HPOS := Lib.hid hpos
    clear hpos
    by_cases hlt : k < 32
    · have hki : (k : Int) ≤ 31 := by omega
      have dki : decide ((k : Int) ≤ 31) = true := decide_eq_true hki
      go_wp2_with fail
      refine (specConsOk_any wr B (some ⟨b, off, none⟩) n c l (by omega) (HL.out.below (HB.out.mono hB)) hn).mono ?_
      rintro e w1 ⟨rfl, hb1⟩
      have HB1 := Lib.hid (HB.out.trans (hb1.mono hszr))
      have HO1 := Lib.hid (own_below' HO.out hb1)
      clear hb1
      cases h1 : consOkR l with
      | false =>
        have HF : Hid (signsR l = []) := if_neg (by rw [h1]; decide)
        have hk0 : k = 0 := by
          rcases Nat.eq_zero_or_pos k with h | h
          · exact h
          · have := HPOS.out h; rw [h1] at this; cases this
        obtain rfl : m = 0 := by omega
        have HO2 : Hid (OwnI w1 w.heap.size (some ⟨g2, 0, none⟩) 0 c2 []) := by have h := HO1.out; rw [hk0] at h; exact h
        clear h1 hk0
        go_wp2
        go_ret
        rw [HF.out]
        exact ⟨_, _, rfl, HO2.out, HB1.out⟩
      | true =>
        have H1 := Lib.hid h1
        have HP := Lib.hid (consOkR_ok h1)
        have hn24 : n ≤ 24 := by have := (consOkR_ok h1).2; rw [HL.out.1] at this; exact this
        have hs1 := HB1.out.size
        clear h1
        go_wp2_with fail
        refine (l05Signed_any w1 B b off n c l k (by omega) (HL.out.below (HB1.out.mono hB)) (by omega)).mono ?_
        rintro e w2 ⟨g5, c5, rfl, ho2, hb2⟩
        have HB2 := Lib.hid (HB1.out.trans (hb2.mono hs1))
        have HO2 := Lib.hid (own_below' HO1.out hb2)
        have HR2 := Lib.hid (OwnC.reads ho2)
        have hs2 := HB2.out.size
        clear ho2 hb2
        go_wp2_with fail
        refine (l05Paths_any w2 w2.heap.size (some ⟨g5, 0, none⟩) (n + 5) c5 _ (Nat.le_refl _) HR2.out (Cs.signed_ok HP.out.1 _) (by omega)).mono ?_
        rintro e w3 ⟨hb3, ⟨hf, g, cap, rw', cp, rfl, _⟩ | ⟨hf, rfl⟩⟩
        · have HFS : Hid (Cs.foundI (gS l) (k + 1) = Cs.foundI (gS l) k ++ [k]) := by
            show _ = _
            rw [Cs.foundI_succ, if_neg]
            show ¬ (!Cs.flat _) = true
            rw [hf]
            decide
          have HB3 := Lib.hid (HB2.out.trans (hb3.mono hs2))
          have hown := own_below' HO2.out hb3
          have hs3 := HB3.out.size
          clear hb3 hf
          go_wp2_with (at_builtin; refine wpList_append_own _ rfl (.tmp 24) (.tmp 26) 26 rfl w.heap.size 3 i0 (.int .i64 0) 1 8 Try.underlying26 hi hz0 hz1 hz2 rfl (by decide) (.slice (some ⟨g2, 0, none⟩) m c2) m ((natI (Cs.foundI (gS l) k)).map (Value.int .i64)) rfl (hown.alloc _) ⟨w3.heap.size, 0, none⟩ 1 1 [.int .i64 (k : Int)] rfl rfl (cell_one_new _ _ _) (fun u hu => by simp at hu; subst hu; rfl) (by unfold maxLen; omega) (by omega) (by simp; omega) ?_; intro v' w8 hown' hgrow hnil)
          obtain ⟨g8, c8, rfl⟩ : ∃ g' c', v' = .slice (some ⟨g', 0, none⟩) (m + 1) c' := by
            rcases hown'.2 with ⟨h0, _⟩ | ⟨g', c', _, h0, _⟩
            · have := (hnil.1 h0).1
              cases this
            · exact ⟨g', c', h0⟩
          have HB8 : Hid (Below w.heap.size w w8) := (HB3.out.alloc hs3 _).grown hgrow (by simp; omega) (fun x h => (hown.lt x h).1)
          have HO8 : Hid (OwnI w8 w.heap.size (some ⟨g8, 0, none⟩) (m + 1) c8 (natI (Cs.foundI (gS l) (k + 1)))) := by
            show OwnI _ _ _ _ _ _
            rw [HFS.out, natI_snoc]
            unfold OwnI
            rw [List.map_append]
            exact hown'
          clear hown hown' hgrow hnil
          go_wp2
          go_roundw
          case rel => exact ⟨k + 1, m + 1, g8, c8, by omega, by go_num, rfl, by omega, fun _ => H1.out, HO8.out, HB8.out⟩
          case measure => simp [intOf]; omega
        · have HFS : Hid (Cs.foundI (gS l) (k + 1) = Cs.foundI (gS l) k) := by
            show _ = _
            rw [Cs.foundI_succ, if_pos]
            show (!Cs.flat _) = true
            rw [hf]
            decide
          have HB3 := Lib.hid (HB2.out.trans (hb3.mono hs2))
          have HO3 := Lib.hid (own_below' HO2.out hb3)
          clear hb3 hf
          go_wp2
          go_roundw
          case rel => exact ⟨k + 1, m, g2, c2, by omega, by go_num, rfl, by omega, fun _ => H1.out, by rw [HFS.out]; exact HO3.out, HB3.out⟩
          case measure => simp [intOf]; omega
    · have hki : ¬ (k : Int) ≤ 31 := by omega
      have dki : decide ((k : Int) ≤ 31) = false := decide_eq_false hki
      have HF : Hid (signsR l = natI (Cs.foundI (gS l) 32)) := if_pos (HPOS.out (by omega))
      have HK : Hid (k = 32) := by show k = 32; omega
      have HM : Hid ((natI (Cs.foundI (gS l) 32)).length = m) := by
        have h := HO.out.1
        rw [List.length_map, Nat.mul_one, HK.out] at h
        exact h
      rw [HK.out] at HO
      clear HK
      go_wp2
      go_ret
      rw [HF.out, HM.out]
      exact ⟨_, _, rfl, HO.out, HB.out⟩
end Go.Proofs.Ytboogdkkcepifaa
