/- slices.Grow and Concat over slices of atoms. -/
import Derived.Test.YtgbdojenenfgfaaConcat
import Derived.Test.YtgbdojenenfgfaaAtLaws
namespace Go.Proofs.Ytgbdojenenfgfaa
open Go.RowKit

/-- a call gives back a slice of tokens of its own that is not nil -/
def ResAt (w : World) (l : List (Int × Int)) (e : Ending) (w' : World) : Prop :=
  ∃ g c, e = .returned (.slice (some ⟨g, 0, none⟩) l.length c) ∧ OwnA w' w.heap.size (some ⟨g, 0, none⟩) l.length c l ∧ Below w.heap.size w w'

set_option maxRecDepth 100000 in
set_option maxHeartbeats 800000 in
theorem growA_nil (n : Nat) (h1 : 1 ≤ n) (hn : n ≤ 1000) (w : World) :
    Calls Try.prog 63 #[.slice none 0 0, .int .i64 n] w (ResAt w []) := by
  obtain ⟨i0, hi, hz0, hz1, hz2⟩ := info_parts info_atom
  have hr := Lib.run_append_nil_zeros (P := Try.prog) w 24 3 24 32 i0 _ .i64 .i64 Try.underlying24 Try.underlying3 hi hz0 n (by omega) (by omega) (by omega) (by rw [hz2]; omega)
  have hge := grownCap_ge w n 0 32
  have hle := grownCap_le_maxLen w n 0 32 (by unfold maxLen; omega)
  generalize grownCap w n 0 32 = cp at hr hge hle
  obtain ⟨cur, hcur⟩ : ∃ cur, Builtin.zeroCells (Value.agg #[.int .i64 0, .int .i64 0]).cells n ++ Builtin.zeroCells (Value.agg #[.int .i64 0, .int .i64 0]).cells (cp - n) = cur := ⟨_, rfl⟩
  have hsz : cur.size = cp * 2 := by
    rw [← hcur, Array.size_append, size_zeroCells, size_zeroCells]
    have : (Value.agg #[.int .i64 0, .int .i64 0]).cells.size = 2 := rfl
    rw [this]; omega
  rw [hcur] at hr
  have HO : Hid (OwnA (w.drew.alloc (.cells cur 32)) w.heap.size (some ⟨w.heap.size, 0, none⟩) 0 cp []) :=
    World.ownsRow_made w.drew cur cp (Nat.le_refl _) hle hsz
  have HB : Hid (Below w.heap.size w (w.drew.alloc (.cells cur 32))) := (Below.refl _ _).drew.alloc (Nat.le_refl _) _
  have HR := Lib.hid hr
  clear hr hcur hsz hle hi hz0 hz1 hz2
  go_enter Try.func63, Try.ntmps63
  go_wp2_with (at_builtin; refine Lib.wpList_append_run _ rfl (.tmp 20) (.tmp 21) 24 3 rfl (.slice none 0 0) (.int .i64 n) rfl rfl _ _ HR.out ?_)
  go_wp2
  go_ret
  exact ⟨w.heap.size, cp, rfl, HO.out, HB.out⟩

set_option maxRecDepth 100000 in
set_option maxHeartbeats 1600000 in
theorem concatA_any (w : World) (B gs cs : Nat) (ad : Nat → Addr) (cp : Nat → Nat) (ls : List (List (Int × Int))) (hB : B ≤ w.heap.size) (hp : Parts w B gs ad cp ls) (hm : ls.length ≤ 10) (h1 : 1 ≤ ls.flatten.length) (hn : ls.flatten.length ≤ 1000) :
    Calls Try.prog 56 #[.slice (some ⟨gs, 0, none⟩) ls.length cs] w (ResAt w ls.flatten) := by
  obtain ⟨i0, hi, hz0, hz1, hz2⟩ := info_parts info_atom
  go_enter Try.func56, Try.ntmps56
  go_wp2
  go_loop [3, 11] (fun s i => ∃ k : Nat, k ≤ ls.length ∧ i = .int .i64 k ∧ s = .int .i64 ((ls.take k).flatten.length : Nat)) (fun _ i => ls.length - (intOf i).toNat)
  case atStart => exact ⟨0, Nat.zero_le _, rfl, rfl⟩
  case round =>
    obtain ⟨k, hk, rfl, rfl⟩ := hrel
    have hle := flat_le ls k
    by_cases hlt : k < ls.length
    · have hc := (hp.2 k hlt).1
      have HF := Lib.hid (congrArg List.length (flat_take ls k hlt))
      have hle2 := flat_le ls (k + 1)
      have hsum : (ls.take k).flatten.length + (ls.getD k []).length ≤ 1000 := by
        have := HF.out
        simp at this
        simp at hle2
        have : (List.take (k + 1) ls).flatten.length ≤ ls.flatten.length := by simpa using flat_le ls (k + 1)
        rw [HF.out, List.length_append] at this
        omega
      have HP := Lib.hid hp
      obtain ⟨a, ha⟩ : ∃ a, (ls.take k).flatten.length = a := ⟨_, rfl⟩
      obtain ⟨b, hb⟩ : ∃ b, (ls.getD k []).length = b := ⟨_, rfl⟩
      have HF2 : Hid ((ls.take (k + 1)).flatten.length = a + b) := by
        show _ = _
        rw [HF.out, List.length_append, ha, hb]
      rw [hb] at hc
      rw [ha, hb] at hsum
      have HA := Lib.hid ha
      rw [ha]
      clear ha hb hle hle2 HF hp
      go_wp2
      go_round
      case rel => exact ⟨k + 1, by omega, by go_num, by rw [HF2.out]; go_num⟩
      case measure => simp [intOf]; omega
    · obtain rfl : k = ls.length := by omega
      have ht : (ls.take ls.length).flatten.length = ls.flatten.length := by rw [List.take_length]
      rw [ht]
      have HT := Lib.hid ht
      obtain ⟨N, hN⟩ : ∃ N, ls.flatten.length = N := ⟨_, rfl⟩
      rw [hN] at h1 hn ⊢
      have HN := Lib.hid hN
      clear ht hN hle hlt
      go_wp2_with fail
      refine (growA_nil N h1 hn w).mono ?_
      rintro e w1 ⟨g, c, rfl, ho1, hb1⟩
      simp only [List.length_nil] at ho1 ⊢
      have HO1 := Lib.hid ho1
      clear ho1
      go_wp2
      go_loopw [6, 27] (fun v i wr => ∃ (k g c : Nat), k ≤ ls.length ∧ i = .int .i64 k ∧ v = .slice (some ⟨g, 0, none⟩) (ls.take k).flatten.length c ∧ OwnA wr w.heap.size (some ⟨g, 0, none⟩) (ls.take k).flatten.length c (ls.take k).flatten ∧ Below w.heap.size w wr) (fun _ i _ => ls.length - (intOf i).toNat)
      case atStart => exact ⟨0, g, c, Nat.zero_le _, rfl, rfl, HO1.out, hb1⟩
      case round =>
        obtain ⟨k, g, c, hk, rfl, rfl, hown, hbel⟩ := hrel
        have hszr := hbel.size
        by_cases hlt : k < ls.length
        · have hpr := hp.below (hbel.mono hB)
          obtain ⟨hc, hT⟩ := hpr.2 k hlt
          have HF := Lib.hid (flat_take ls k hlt)
          have hle2 : (ls.take (k + 1)).flatten.length ≤ N := by rw [← HN.out]; exact flat_le ls (k + 1)
          have HTA := Lib.hid hT
          obtain ⟨L, hL⟩ : ∃ L, ls.getD k [] = L := ⟨_, rfl⟩
          obtain ⟨F, hF⟩ : ∃ F, (ls.take k).flatten = F := ⟨_, rfl⟩
          have HF2 : Hid ((ls.take (k + 1)).flatten = F ++ L) := by
            show _ = _
            rw [HF.out, hL, hF]
          rw [HF2.out, List.length_append] at hle2
          rw [hL] at hc HTA
          rw [hF] at hown ⊢
          have HP := Lib.hid hp
          have HPR := Lib.hid hpr
          obtain ⟨q, hq⟩ : ∃ q, ad k = q := ⟨_, rfl⟩
          rw [hq] at hc HTA
          clear hL hF HF hT hp hpr hq
          go_wp2_with (at_builtin; refine wpList_append_own _ rfl (.tmp 31) (.tmp 32) 24 rfl w.heap.size 32 i0 (.agg #[.int .i64 0, .int .i64 0]) 2 16 Try.underlying24 hi hz0 hz1 hz2 rfl (by decide) (.slice (some ⟨g, 0, none⟩) F.length c) F.length (tokCells F) rfl hown q L.length (cp k) (tokCells L) rfl (tokCells_len L) HTA.out.2 (tokCells_one L) (by unfold maxLen; omega) (by omega) hszr ?_; intro v' w3 hown' hgrow hnil)
          · obtain ⟨g', cap', rfl⟩ : ∃ g' cap', v' = .slice (some ⟨g', 0, none⟩) (F.length + L.length) cap' := by
              rcases hown'.2 with ⟨h0, _⟩ | ⟨g', cap', _, h0, _⟩
              · have := (hnil.1 h0).1
                cases this
              · exact ⟨g', cap', h0⟩
            have HB1 : Hid (Below w.heap.size w w3) := hbel.grown hgrow hszr (fun k h => (hown.lt k h).1)
            have HW : Hid (OwnA w3 w.heap.size (some ⟨g', 0, none⟩) (ls.take (k + 1)).flatten.length cap' (ls.take (k + 1)).flatten) := by
              show OwnA _ _ _ _ _ _
              rw [HF2.out, List.length_append]
              unfold OwnA
              rw [tokCells_append]
              exact hown'
            have HLn : Hid ((ls.take (k + 1)).flatten.length = F.length + L.length) := by show _ = _; rw [HF2.out, List.length_append]
            clear hown hown' hgrow hbel hnil
            go_wp2
            go_roundw
            case rel => exact ⟨k + 1, g', cap', by omega, by go_num, by rw [HLn.out], HW.out, HB1.out⟩
            case measure => simp [intOf]; omega
        · obtain rfl : k = ls.length := by omega
          rw [List.take_length] at hown ⊢
          have HO := Lib.hid hown
          clear hown
          go_wp2
          go_ret
          exact ⟨g, c, rfl, HO.out, hbel⟩
end Go.Proofs.Ytgbdojenenfgfaa
