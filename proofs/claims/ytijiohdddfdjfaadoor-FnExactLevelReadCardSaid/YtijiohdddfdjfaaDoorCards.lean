/-
  DERIVED. GIVEN WITH THE SEED: THE CARDS: each row of YtijiohdddfdjfaaDoorRows.lean that lists a variable, with what it lists TIED to the program's text (the seventh form; the later family's looks); each row that meets fmt, with fmt's text TOLD by the authors' own Lean function (tested against real Go, not proved from fmt's source: count such statements apart). THE CARD IS WHAT COUNTS. Prove the row's statement (the work); the ties are given (YtijiohdddfdjfaaDoorTie.lean); close each card by the builder's one call (the guide's Derived/Test/ToyasCard.lean, 'card_holds'). Laid BY PROGRAM, IN A SANDBOX (cutbox-door.mjs). By AI agents, Wed Nov 11 2026. No macro, syntax, notation, axiom, sorry.
-/
import Derived.Test.YtijiohdddfdjfaaDoorRows
import GoSem.ClaimSeven
namespace Go.Proofs.YtijiohdddfdjfaaDoor
namespace Rows

/-- THE TIED CARD OF 'laws.FnSign'. -/
def fnSignCard : Claim7 := { stood := { row := fnSignRow, standIns := [], harness := (true, "1477a5369d292486fe0e1237fca7bc78c7893eaf51bb7c53f936056c2a8d58d2"), looks := false }, kinds := [], alts := [], laidByText := true, laidKinds := [.sentinel], laidTests := true, laidLooks := .later }
def FnSignCardSaid : Prop := Claim7.holds Tryd.pinned (.plain (OpenSpec.ofChange fnSignSpec)) fnSignCard

/-- THE TIED CARD OF 'laws.FnResidual'. -/
def fnResidualCard : Claim7 := { stood := { row := fnResidualRow, standIns := [], harness := (true, "1477a5369d292486fe0e1237fca7bc78c7893eaf51bb7c53f936056c2a8d58d2"), looks := false }, kinds := [], alts := [], laidByText := true, laidKinds := [.sentinel], laidTests := true, laidLooks := .later }
def FnResidualCardSaid : Prop := Claim7.holds Tryd.pinned (.plain (OpenSpec.ofChange fnResidualSpec)) fnResidualCard

/-- THE TIED CARD OF 'laws.FnExactLevelSign'. -/
def fnExactLevelSignCard : Claim7 := { stood := { row := fnExactLevelSignRow, standIns := [], harness := (true, "1477a5369d292486fe0e1237fca7bc78c7893eaf51bb7c53f936056c2a8d58d2"), looks := false }, kinds := [], alts := [], laidByText := true, laidKinds := [.sentinel], laidTests := true, laidLooks := .later }
def FnExactLevelSignCardSaid : Prop := Claim7.holds Tryd.pinned (.plain (OpenSpec.ofChange fnExactLevelSignSpec)) fnExactLevelSignCard

/-- THE TIED CARD OF 'laws.FnExactResidual'. -/
def fnExactResidualCard : Claim7 := { stood := { row := fnExactResidualRow, standIns := [], harness := (true, "1477a5369d292486fe0e1237fca7bc78c7893eaf51bb7c53f936056c2a8d58d2"), looks := false }, kinds := [], alts := [], laidByText := true, laidKinds := [.sentinel], laidTests := true, laidLooks := .later }
def FnExactResidualCardSaid : Prop := Claim7.holds Tryd.pinned (.plain (OpenSpec.ofChange fnExactResidualSpec)) fnExactResidualCard

/-- THE TIED CARD OF 'laws.FnExactSignMerge'. -/
def fnExactSignMergeCard : Claim7 := { stood := { row := fnExactSignMergeRow, standIns := [], harness := (true, "1477a5369d292486fe0e1237fca7bc78c7893eaf51bb7c53f936056c2a8d58d2"), looks := false }, kinds := [], alts := [], laidByText := true, laidKinds := [.sentinel], laidTests := true, laidLooks := .later }
def FnExactSignMergeCardSaid : Prop := Claim7.holds Tryd.pinned (.plain (OpenSpec.ofChange fnExactSignMergeSpec)) fnExactSignMergeCard

/-- THE TIED CARD OF 'laws.FnExactLevelRead'. -/
def fnExactLevelReadCard : Claim7 := { stood := { row := fnExactLevelReadRow, standIns := [], harness := (true, "1477a5369d292486fe0e1237fca7bc78c7893eaf51bb7c53f936056c2a8d58d2"), looks := false }, kinds := [], alts := [], laidByText := true, laidKinds := [.data, .data, .data, .data, .sentinel, .pinned], laidTests := true, laidLooks := .later }
def FnExactLevelReadCardSaid : Prop := Claim7.holds Tryd.pinned (.plain (OpenSpec.ofChange fnExactLevelReadSpec)) fnExactLevelReadCard

/-- THE SECOND FORM's CARD OF 'laws.FnSign'. -/
def fnSignUptoCard : Claim7 := { stood := { row := fnSignUptoRow, standIns := [], harness := (true, "1477a5369d292486fe0e1237fca7bc78c7893eaf51bb7c53f936056c2a8d58d2"), looks := false }, kinds := [], alts := [], laidByText := true, laidKinds := [.sentinel], laidTests := true, laidLooks := .later }
def FnSignUptoCardSaid : Prop := Claim7.holds Tryd.pinned (.plain (OpenSpec.upto fnSignSpec)) fnSignUptoCard

/-- THE SECOND FORM's CARD OF 'laws.FnResidual'. -/
def fnResidualUptoCard : Claim7 := { stood := { row := fnResidualUptoRow, standIns := [], harness := (true, "1477a5369d292486fe0e1237fca7bc78c7893eaf51bb7c53f936056c2a8d58d2"), looks := false }, kinds := [], alts := [], laidByText := true, laidKinds := [.sentinel], laidTests := true, laidLooks := .later }
def FnResidualUptoCardSaid : Prop := Claim7.holds Tryd.pinned (.plain (OpenSpec.upto fnResidualSpec)) fnResidualUptoCard

/-- THE SECOND FORM's CARD OF 'laws.FnExactLevelSign'. -/
def fnExactLevelSignUptoCard : Claim7 := { stood := { row := fnExactLevelSignUptoRow, standIns := [], harness := (true, "1477a5369d292486fe0e1237fca7bc78c7893eaf51bb7c53f936056c2a8d58d2"), looks := false }, kinds := [], alts := [], laidByText := true, laidKinds := [.sentinel], laidTests := true, laidLooks := .later }
def FnExactLevelSignUptoCardSaid : Prop := Claim7.holds Tryd.pinned (.plain (OpenSpec.upto fnExactLevelSignSpec)) fnExactLevelSignUptoCard

/-- THE SECOND FORM's CARD OF 'laws.FnExactResidual'. -/
def fnExactResidualUptoCard : Claim7 := { stood := { row := fnExactResidualUptoRow, standIns := [], harness := (true, "1477a5369d292486fe0e1237fca7bc78c7893eaf51bb7c53f936056c2a8d58d2"), looks := false }, kinds := [], alts := [], laidByText := true, laidKinds := [.sentinel], laidTests := true, laidLooks := .later }
def FnExactResidualUptoCardSaid : Prop := Claim7.holds Tryd.pinned (.plain (OpenSpec.upto fnExactResidualSpec)) fnExactResidualUptoCard

/-- THE SECOND FORM's CARD OF 'laws.FnExactSignMerge'. -/
def fnExactSignMergeUptoCard : Claim7 := { stood := { row := fnExactSignMergeUptoRow, standIns := [], harness := (true, "1477a5369d292486fe0e1237fca7bc78c7893eaf51bb7c53f936056c2a8d58d2"), looks := false }, kinds := [], alts := [], laidByText := true, laidKinds := [.sentinel], laidTests := true, laidLooks := .later }
def FnExactSignMergeUptoCardSaid : Prop := Claim7.holds Tryd.pinned (.plain (OpenSpec.upto fnExactSignMergeSpec)) fnExactSignMergeUptoCard

/-- THE SECOND FORM's CARD OF 'laws.FnExactLevelRead'. -/
def fnExactLevelReadUptoCard : Claim7 := { stood := { row := fnExactLevelReadUptoRow, standIns := [], harness := (true, "1477a5369d292486fe0e1237fca7bc78c7893eaf51bb7c53f936056c2a8d58d2"), looks := false }, kinds := [], alts := [], laidByText := true, laidKinds := [.data, .data, .data, .data, .sentinel, .pinned], laidTests := true, laidLooks := .later }
def FnExactLevelReadUptoCardSaid : Prop := Claim7.holds Tryd.pinned (.plain (OpenSpec.upto fnExactLevelReadSpec)) fnExactLevelReadUptoCard
end Rows
end Go.Proofs.YtijiohdddfdjfaaDoor
