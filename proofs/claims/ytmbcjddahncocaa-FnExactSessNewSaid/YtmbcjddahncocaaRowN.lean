/- The law FnExactSessNew: the walk. -/
/- What every row of a seat without variables needs: an argument that is a slice of atoms, of numbers, of bytes. -/
import Derived.Test.YtmbcjddahncocaaSessNw
import Derived.ProofKit
import Derived.OpenShut
import Derived.OpenVars
import Derived.Deep.SlicePairs
import Derived.Deep.DeepHandedRow
import Derived.LaidLaws
import Derived.ChangeVars
import Derived.SizedLaws

namespace Go.Proofs.Ytmbcjddahncocaa
open Go.RowKit

theorem FrR.below {w w' : World} {g : Nat} (h : FrR w g) (hb : Below w.heap.size w w') : FrR w' g := Blk.below h hb h.lt
theorem FrR.more {w : World} {g : Nat} (h : FrR w g) (o : Obj) : FrR (w.alloc o) g := Blk.alloc h o
set_option maxRecDepth 100000 in
set_option maxHeartbeats 4000000 in
theorem sessNewLaw_any (w : World) : Calls Try.prog 3 #[] w fun e w' => e = .returned (.bool true) ∧ Below w.heap.size w w' := by
  go_enter Try.func3, Try.ntmps3
  go_wp2_with fail
  refine (specSessNew_any w).mono ?_
  rintro e w1 ⟨gw, rfl, _, fw1, hb1⟩
  have hB1 : Below w.heap.size w w1 := hb1
  have hC1 := hB1.alloc hB1.size (.cells #[frV gw] 24)
  have fwx1 := fw1.more (.cells #[frV gw] 24)
  have bwx1 : Blk (w1.alloc (.cells #[frV gw] 24)) w1.heap.size 24 #[frV gw] := Blk.made _ _ _
  have cbwx1 : (w1.alloc (.cells #[frV gw] 24)).cell? ⟨w1.heap.size, 0, none⟩ = some (frV gw) := bwx1.cell 0
  go_wp2_with fail
  refine (implSessNew_any (w1.alloc (.cells #[frV gw] 24))).mono ?_
  rintro e w2 ⟨gg, rfl, _, fg2, hb2⟩
  have hB2 : Below w.heap.size w w2 := hC1.trans (hb2.mono hC1.size)
  have fw2 := fwx1.below hb2
  have bw2 := Blk.below bwx1 hb2 (Blk.lt bwx1)
  have cbw2 : w2.cell? ⟨w1.heap.size, 0, none⟩ = some (frV gw) := bw2.cell 0
  have hC2 := hB2.alloc hB2.size (.cells #[frV gg] 24)
  have fwx2 := fw2.more (.cells #[frV gg] 24)
  have bwx2 := Blk.alloc bw2 (.cells #[frV gg] 24)
  have cbwx2 : (w2.alloc (.cells #[frV gg] 24)).cell? ⟨w1.heap.size, 0, none⟩ = some (frV gw) := bwx2.cell 0
  have fgx2 := fg2.more (.cells #[frV gg] 24)
  have bgx2 : Blk (w2.alloc (.cells #[frV gg] 24)) w2.heap.size 24 #[frV gg] := Blk.made _ _ _
  have cbgx2 : (w2.alloc (.cells #[frV gg] 24)).cell? ⟨w2.heap.size, 0, none⟩ = some (frV gg) := bgx2.cell 0
  go_wp2_with fail
  refine (eqSess0 (w2.alloc (.cells #[frV gg] 24)) gg gw fgx2 fwx2).mono ?_
  rintro e w3 ⟨rfl, hb3⟩
  have hB3 : Below w.heap.size w w3 := hC2.trans (hb3.mono hC2.size)
  have fw3 := fwx2.below hb3
  have bw3 := Blk.below bwx2 hb3 (Blk.lt bwx2)
  have cbw3 : w3.cell? ⟨w1.heap.size, 0, none⟩ = some (frV gw) := bw3.cell 0
  have fg3 := fgx2.below hb3
  have bg3 := Blk.below bgx2 hb3 (Blk.lt bgx2)
  have cbg3 : w3.cell? ⟨w2.heap.size, 0, none⟩ = some (frV gg) := bg3.cell 0
  go_wp2_with fail
  refine (markSess0 w3 gg fg3 1).mono ?_
  rintro e w4 ⟨rfl, hb4⟩
  have hB4 : Below w.heap.size w w4 := hB3.trans (hb4.mono hB3.size)
  have fw4 := fw3.below hb4
  have bw4 := Blk.below bw3 hb4 (Blk.lt bw3)
  have cbw4 : w4.cell? ⟨w1.heap.size, 0, none⟩ = some (frV gw) := bw4.cell 0
  have fg4 := fg3.below hb4
  have bg4 := Blk.below bg3 hb4 (Blk.lt bg3)
  have cbg4 : w4.cell? ⟨w2.heap.size, 0, none⟩ = some (frV gg) := bg4.cell 0
  go_wp2_with fail
  refine (heldSess0 w4 gg fg4 1).mono ?_
  rintro e w5 ⟨rfl, hb5⟩
  have hB5 : Below w.heap.size w w5 := hB4.trans (hb5.mono hB4.size)
  have fw5 := fw4.below hb5
  have bw5 := Blk.below bw4 hb5 (Blk.lt bw4)
  have cbw5 : w5.cell? ⟨w1.heap.size, 0, none⟩ = some (frV gw) := bw5.cell 0
  have fg5 := fg4.below hb5
  have bg5 := Blk.below bg4 hb5 (Blk.lt bg4)
  have cbg5 : w5.cell? ⟨w2.heap.size, 0, none⟩ = some (frV gg) := bg5.cell 0
  go_wp2_with fail
  refine (implSessNew_any w5).mono ?_
  rintro e w6 ⟨gh, rfl, _, fh6, hb6⟩
  have hB6 : Below w.heap.size w w6 := hB5.trans (hb6.mono hB5.size)
  have fw6 := fw5.below hb6
  have bw6 := Blk.below bw5 hb6 (Blk.lt bw5)
  have cbw6 : w6.cell? ⟨w1.heap.size, 0, none⟩ = some (frV gw) := bw6.cell 0
  have fg6 := fg5.below hb6
  have bg6 := Blk.below bg5 hb6 (Blk.lt bg5)
  have cbg6 : w6.cell? ⟨w2.heap.size, 0, none⟩ = some (frV gg) := bg6.cell 0
  have hC6 := hB6.alloc hB6.size (.cells #[frV gh] 24)
  have fwx6 := fw6.more (.cells #[frV gh] 24)
  have bwx6 := Blk.alloc bw6 (.cells #[frV gh] 24)
  have cbwx6 : (w6.alloc (.cells #[frV gh] 24)).cell? ⟨w1.heap.size, 0, none⟩ = some (frV gw) := bwx6.cell 0
  have fgx6 := fg6.more (.cells #[frV gh] 24)
  have bgx6 := Blk.alloc bg6 (.cells #[frV gh] 24)
  have cbgx6 : (w6.alloc (.cells #[frV gh] 24)).cell? ⟨w2.heap.size, 0, none⟩ = some (frV gg) := bgx6.cell 0
  have fhx6 := fh6.more (.cells #[frV gh] 24)
  have bhx6 : Blk (w6.alloc (.cells #[frV gh] 24)) w6.heap.size 24 #[frV gh] := Blk.made _ _ _
  have cbhx6 : (w6.alloc (.cells #[frV gh] 24)).cell? ⟨w6.heap.size, 0, none⟩ = some (frV gh) := bhx6.cell 0
  go_wp2_with fail
  refine (eqSess0 (w6.alloc (.cells #[frV gh] 24)) gh gw fhx6 fwx6).mono ?_
  rintro e w7 ⟨rfl, hb7⟩
  have hB7 : Below w.heap.size w w7 := hC6.trans (hb7.mono hC6.size)
  have fw7 := fwx6.below hb7
  have bw7 := Blk.below bwx6 hb7 (Blk.lt bwx6)
  have cbw7 : w7.cell? ⟨w1.heap.size, 0, none⟩ = some (frV gw) := bw7.cell 0
  have fg7 := fgx6.below hb7
  have bg7 := Blk.below bgx6 hb7 (Blk.lt bgx6)
  have cbg7 : w7.cell? ⟨w2.heap.size, 0, none⟩ = some (frV gg) := bg7.cell 0
  have fh7 := fhx6.below hb7
  have bh7 := Blk.below bhx6 hb7 (Blk.lt bhx6)
  have cbh7 : w7.cell? ⟨w6.heap.size, 0, none⟩ = some (frV gh) := bh7.cell 0
  go_wp2_with fail
  refine (heldSess0 w7 gg fg7 1).mono ?_
  rintro e w8 ⟨rfl, hb8⟩
  have hB8 : Below w.heap.size w w8 := hB7.trans (hb8.mono hB7.size)
  have fw8 := fw7.below hb8
  have bw8 := Blk.below bw7 hb8 (Blk.lt bw7)
  have cbw8 : w8.cell? ⟨w1.heap.size, 0, none⟩ = some (frV gw) := bw8.cell 0
  have fg8 := fg7.below hb8
  have bg8 := Blk.below bg7 hb8 (Blk.lt bg7)
  have cbg8 : w8.cell? ⟨w2.heap.size, 0, none⟩ = some (frV gg) := bg8.cell 0
  have fh8 := fh7.below hb8
  have bh8 := Blk.below bh7 hb8 (Blk.lt bh7)
  have cbh8 : w8.cell? ⟨w6.heap.size, 0, none⟩ = some (frV gh) := bh8.cell 0
  go_wp2
  go_ret
  exact ⟨rfl, hB8⟩
end Go.Proofs.Ytmbcjddahncocaa

namespace Go.Proofs.Ytmbcjddahncocaa
open Go.ChangeShapes Go.WideShapes Go.ChangeAt Go.RowKit

theorem own : ownKnob Try.prog.godebug = none := by kernel_rfl
/-- a world for the witness -/
noncomputable def plainWorld (os : Os) : World := World.holding Try.prog os ⟨#[], #[], []⟩
end Go.Proofs.Ytmbcjddahncocaa
