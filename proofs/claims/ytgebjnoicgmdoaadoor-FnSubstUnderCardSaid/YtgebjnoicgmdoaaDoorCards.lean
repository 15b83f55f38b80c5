/-
  DERIVED. GIVEN WITH THE SEED: THE CARDS: each row of YtgebjnoicgmdoaaDoorRows.lean that lists a variable, with what it lists TIED to the program's text (the seventh form; the later family's looks); each row that meets fmt, with fmt's text TOLD by the authors' own Lean function (tested against real Go, not proved from fmt's source: count such statements apart). THE CARD IS WHAT COUNTS. Prove the row's statement (the work); the ties are given (YtgebjnoicgmdoaaDoorTie.lean); close each card by the builder's one call (the guide's Derived/Test/ToyasCard.lean, 'card_holds'). Laid BY PROGRAM, IN A SANDBOX (cutbox-door.mjs). By AI agents, Wed Nov 11 2026. No macro, syntax, notation, axiom, sorry.
-/
import Derived.Test.YtgebjnoicgmdoaaDoorRows
import GoSem.ClaimSeven
namespace Go.Proofs.YtgebjnoicgmdoaaDoor
namespace Rows

/-- THE TIED CARD OF 'laws.FnSubstUnder'. -/
def fnSubstUnderCard : Claim7 := { stood := { row := fnSubstUnderRow, standIns := [], harness := (true, "09b9b2ff676e2258297edef8014d201850db0cd745aa74486cac711bb3d409bc"), looks := false }, kinds := [], alts := [], laidByText := true, laidKinds := [.sentinel, .sentinel], laidTests := true, laidLooks := .later }
def FnSubstUnderCardSaid : Prop := Claim7.holds Tryd.pinned (.plain (OpenSpec.ofChange fnSubstUnderSpec)) fnSubstUnderCard

/-- THE SECOND FORM's CARD OF 'laws.FnSubstUnder'. -/
def fnSubstUnderUptoCard : Claim7 := { stood := { row := fnSubstUnderUptoRow, standIns := [], harness := (true, "09b9b2ff676e2258297edef8014d201850db0cd745aa74486cac711bb3d409bc"), looks := false }, kinds := [], alts := [], laidByText := true, laidKinds := [.sentinel, .sentinel], laidTests := true, laidLooks := .later }
def FnSubstUnderUptoCardSaid : Prop := Claim7.holds Tryd.pinned (.plain (OpenSpec.upto fnSubstUnderSpec)) fnSubstUnderUptoCard
end Rows
end Go.Proofs.YtgebjnoicgmdoaaDoor
