/- The draw of LevelJoin. -/
import Derived.Test.YtgbdojenenfgfaaDoorDraw3
import Derived.Deep.RegionWith
import Derived.Deep.AppendLies
namespace Go.Proofs.YtgbdojenenfgfaaDoor
open Go.RowKit

def opv (rc ra : Nat) (vb : Int) : Int := if rc = 0 then 2 else if rc = 1 then 3 else if rc = 2 then 3 else if rc = 3 then ra else vb
theorem opv_at (rc ra : Nat) (vb : Int) (h : rc < 5) : (#[Value.int .i64 2, .int .i64 3, .int .i64 3, .int .i64 ra, .int .i64 vb] : Array Value)[rc]? = some (.int .i64 (opv rc ra vb)) := by
  rcases (show rc = 0 ∨ rc = 1 ∨ rc = 2 ∨ rc = 3 ∨ rc = 4 by omega) with rfl | rfl | rfl | rfl | rfl <;> rfl
theorem opv_cell (rc ra : Nat) (vb : Int) (h : rc < 5) (X : World) : (X.alloc (.cells #[.int .i64 2, .int .i64 3, .int .i64 3, .int .i64 ra, .int .i64 vb] 3)).cell? ⟨X.heap.size, rc, none⟩ = some (.int .i64 (opv rc ra vb)) :=
  ((Blk.made X 3 _).cell rc).trans (opv_at rc ra vb h)
theorem kp_cell {bc g i : Nat} {a b : World} {v : Value} (hk : Kp bc a b) (hc : a.cell? ⟨g, i, none⟩ = some v) (hne : g ≠ bc) : b.cell? ⟨g, i, none⟩ = some v :=
  (World.grownBy.cell_far hk ⟨g, i, none⟩ (World.block_lt_of_cell? a _ hc) (fun he => by injection he with he; exact hne he)).trans hc

set_option maxRecDepth 100000 in
set_option maxHeartbeats 8000000 in
theorem drawJoin_any (w : World) (B : Nat) (A : Option Addr) (n c : Nat) (hB : B ≤ w.heap.size) (hb : BytR w B A n) (hn : n ≤ 1048576) :
    Calls Tryd.prog 8 #[.slice A n c] w fun e w' => ∃ op g cap l g2 cap2 l2, e = .returned (.tuple #[.int .i64 op, .slice (some ⟨g, 0, none⟩) l.length cap, .slice (some ⟨g2, 0, none⟩) l2.length cap2]) ∧ 1 ≤ l.length ∧ l.length ≤ 25 ∧ 1 ≤ l2.length ∧ l2.length ≤ 24 ∧ OwnT w' w.heap.size (some ⟨g, 0, none⟩) l.length cap l ∧ OwnT w' w.heap.size (some ⟨g2, 0, none⟩) l2.length cap2 l2 ∧ Below w.heap.size w w' := by
  go_enter Tryd.func8, Tryd.ntmps8
  go_wp2_with fail
  refine (open_any w B A n c hB hb hn).mono ?_
  rintro e w1 ⟨rfl, hb1, hc1⟩
  have hs1 := hb1.size
  have hlt := hc1.lt
  have hc0 : Cur w1.drew w.heap.size A n c 0 := hc1
  have hk0 : Kp w.heap.size w1 w1.drew := (Kp.refl _ _).drew
  obtain ⟨bc, hbc⟩ : ∃ bc, w.heap.size = bc := ⟨_, rfl⟩
  rw [hbc] at hc0 hk0 hlt ⊢
  go_wp2_with fail
  go_region_with (first
    | (go_at_call_of 39 (Value.int IntKind.i64 6); refine (pick_any _ bc A n c 0 6 ?_ (by omega) (by omega) hn).mono ?_; exact hc0; rintro e wa ⟨ra, rfl, hra, hca, hka⟩; have hla := hca.lt)
    | (go_at_call 40; refine (raw_any _ bc A n c 1 ?_ (by omega) hn).mono ?_; exact hca; rintro e wb ⟨vb, rfl, hcb, hkb⟩; have hlb := hcb.lt)
    | (go_at_call_of 39 (Value.int IntKind.i64 5); refine (pick_any _ bc A n c 3 5 ?_ (by omega) (by omega) hn).mono ?_; (first | exact hcb | exact hcb.alloc _); rintro e wc ⟨rc, rfl, hrc, hcc, hkc⟩
       have hlc := hcc.lt
       have hrc5 : rc < 5 := by omega
       have hld := opv_cell rc ra vb hrc5
       try (have hld3 := kp_cell hkc (hld wb) (by omega)))
    | (go_at_call 41; refine (badLevel_any _ bc A n c 4 ?_ (by omega) hn).mono ?_; (first | exact hcc | exact hcc.alloc _); rintro e wd ⟨gd, capd, ld, rfl, hd1, hd2, hod, hcd, hkd⟩
       have hld' := hcd.lt
       try (have hld4 := kp_cell hkd hld3 (by omega))
       try (have hld4 := kp_cell hkd (hld wc) (by omega)))
    | (go_at_call 42; refine (level_any bc A n c hn 2 _ 204 (by omega) ?_ (by decide)).mono ?_; (first | exact hcd | exact hcd.alloc _); rintro e we ⟨ge, cape, le, rfl, he1, he2, hoe, hce, hke⟩
       have hle' := hce.lt
       try (have hld5 := kp_cell hke hld4 (by omega))
       try (have hld5 := kp_cell hke (hld wd) (by omega))))
  all_goals
    go_wp2
    refine bodyPost_ret (v := .tuple #[.int .i64 (opv rc ra vb), .slice (some ⟨gd, 0, none⟩) ld.length capd, .slice (some ⟨ge, 0, none⟩) le.length cape]) (by simp [results, Tryd.results8, go_sem]) rfl ?_
    refine ⟨opv rc ra vb, gd, capd, ld, ge, cape, le, rfl, hd1, hd2, he1, he2, ?_, ?_, ?_⟩
    · first
        | exact own_base (Kp.own hod hke (by first | omega | (simp only [World.size_alloc]; omega))) (by first | omega | (simp only [World.size_alloc]; omega))
        | exact own_base (Kp.own (hod.alloc _) hke (by first | omega | (simp only [World.size_alloc]; omega))) (by first | omega | (simp only [World.size_alloc]; omega))
        | exact own_base ((Kp.own hod hke (by first | omega | (simp only [World.size_alloc]; omega))).alloc _) (by first | omega | (simp only [World.size_alloc]; omega))
    · first
        | exact own_base hoe (by first | omega | (simp only [World.size_alloc]; omega))
        | exact own_base (hoe.alloc _) (by first | omega | (simp only [World.size_alloc]; omega))
    · first
        | exact Kp.below hb1 ((((((hk0.trans hka).trans hkb).alloc _).trans hkc).trans hkd).trans hke) (by omega) hs1
        | exact Kp.below hb1 ((((((hk0.trans hka).trans hkb).trans hkc).alloc _).trans hkd).trans hke) (by omega) hs1
        | exact Kp.below hb1 ((((((hk0.trans hka).trans hkb).trans hkc).trans hkd).alloc _).trans hke) (by omega) hs1
        | exact Kp.below hb1 ((((((hk0.trans hka).trans hkb).trans hkc).trans hkd).trans hke).alloc _) (by omega) hs1
end Go.Proofs.YtgbdojenenfgfaaDoor
