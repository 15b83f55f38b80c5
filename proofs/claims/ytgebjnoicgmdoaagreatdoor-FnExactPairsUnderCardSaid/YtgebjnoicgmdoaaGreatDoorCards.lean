/-
  DERIVED. GIVEN WITH THE SEED: THE CARDS: each row of YtgebjnoicgmdoaaGreatDoorRows.lean that lists a variable, with what it lists TIED to the program's text (the seventh form; the later family's looks); each row that meets fmt, with fmt's text TOLD by the authors' own Lean function (tested against real Go, not proved from fmt's source: count such statements apart). THE CARD IS WHAT COUNTS. Prove the row's statement (the work); the ties are given (YtgebjnoicgmdoaaGreatDoorTie.lean); close each card by the builder's one call (the guide's Derived/Test/ToyasCard.lean, 'card_holds'). Laid BY PROGRAM, IN A SANDBOX (cutbox-door.mjs). By AI agents, Wed Nov 11 2026. No macro, syntax, notation, axiom, sorry.
-/
import Derived.Test.YtgebjnoicgmdoaaGreatDoorRows
import GoSem.ClaimSeven
namespace Go.Proofs.YtgebjnoicgmdoaaGreatDoor
namespace Rows

/-- THE TIED CARD OF 'laws.FnTop'. -/
def fnTopCard : Claim7 := { stood := { row := fnTopRow, standIns := [], harness := (true, "bb803ff4b7ab914dc38400ac5bff233a265edf129a5a2ccff27efd32c8c3cde1"), looks := true }, kinds := [], alts := [], laidByText := true, laidKinds := [.handle, .sentinel, .sentinel], laidTests := true, laidLooks := .later }
def FnTopCardSaid : Prop := Claim7.holds Tryz.pinned (.plain (OpenSpec.ofChange fnTopSpec)) fnTopCard

/-- THE TIED CARD OF 'laws.FnMoreKnown'. -/
def fnMoreKnownCard : Claim7 := { stood := { row := fnMoreKnownRow, standIns := [], harness := (true, "bb803ff4b7ab914dc38400ac5bff233a265edf129a5a2ccff27efd32c8c3cde1"), looks := true }, kinds := [], alts := [], laidByText := true, laidKinds := [.sentinel, .sentinel], laidTests := true, laidLooks := .later }
def FnMoreKnownCardSaid : Prop := Claim7.holds Tryz.pinned (.plain (OpenSpec.ofChange fnMoreKnownSpec)) fnMoreKnownCard

/-- THE TIED CARD OF 'laws.FnOneFor'. -/
def fnOneForCard : Claim7 := { stood := { row := fnOneForRow, standIns := [], harness := (true, "bb803ff4b7ab914dc38400ac5bff233a265edf129a5a2ccff27efd32c8c3cde1"), looks := true }, kinds := [], alts := [], laidByText := true, laidKinds := [.sentinel, .sentinel], laidTests := true, laidLooks := .later }
def FnOneForCardSaid : Prop := Claim7.holds Tryz.pinned (.plain (OpenSpec.ofChange fnOneForSpec)) fnOneForCard

/-- THE TIED CARD OF 'laws.FnWitnessLess'. -/
def fnWitnessLessCard : Claim7 := { stood := { row := fnWitnessLessRow, standIns := [], harness := (true, "bb803ff4b7ab914dc38400ac5bff233a265edf129a5a2ccff27efd32c8c3cde1"), looks := true }, kinds := [], alts := [], laidByText := true, laidKinds := [.handle, .sentinel, .sentinel], laidTests := true, laidLooks := .later }
def FnWitnessLessCardSaid : Prop := Claim7.holds Tryz.pinned (.plain (OpenSpec.ofChange fnWitnessLessSpec)) fnWitnessLessCard

/-- THE TIED CARD OF 'laws.FnExactWitness'. -/
def fnExactWitnessCard : Claim7 := { stood := { row := fnExactWitnessRow, standIns := [], harness := (true, "bb803ff4b7ab914dc38400ac5bff233a265edf129a5a2ccff27efd32c8c3cde1"), looks := true }, kinds := [], alts := [], laidByText := true, laidKinds := [.handle, .sentinel, .sentinel], laidTests := true, laidLooks := .later }
def FnExactWitnessCardSaid : Prop := Claim7.holds Tryz.pinned (.plain (OpenSpec.ofChange fnExactWitnessSpec)) fnExactWitnessCard

/-- THE TIED CARD OF 'laws.FnExactPairsUnder'. -/
def fnExactPairsUnderCard : Claim7 := { stood := { row := fnExactPairsUnderRow, standIns := [], harness := (true, "bb803ff4b7ab914dc38400ac5bff233a265edf129a5a2ccff27efd32c8c3cde1"), looks := true }, kinds := [], alts := [], laidByText := true, laidKinds := [.sentinel, .sentinel], laidTests := true, laidLooks := .later }
def FnExactPairsUnderCardSaid : Prop := Claim7.holds Tryz.pinned (.plain (OpenSpec.ofChange fnExactPairsUnderSpec)) fnExactPairsUnderCard

/-- THE SECOND FORM's CARD OF 'laws.FnTop'. -/
def fnTopUptoCard : Claim7 := { stood := { row := fnTopUptoRow, standIns := [], harness := (true, "bb803ff4b7ab914dc38400ac5bff233a265edf129a5a2ccff27efd32c8c3cde1"), looks := true }, kinds := [], alts := [], laidByText := true, laidKinds := [.handle, .sentinel, .sentinel], laidTests := true, laidLooks := .later }
def FnTopUptoCardSaid : Prop := Claim7.holds Tryz.pinned (.plain (OpenSpec.upto fnTopSpec)) fnTopUptoCard

/-- THE SECOND FORM's CARD OF 'laws.FnMoreKnown'. -/
def fnMoreKnownUptoCard : Claim7 := { stood := { row := fnMoreKnownUptoRow, standIns := [], harness := (true, "bb803ff4b7ab914dc38400ac5bff233a265edf129a5a2ccff27efd32c8c3cde1"), looks := true }, kinds := [], alts := [], laidByText := true, laidKinds := [.sentinel, .sentinel], laidTests := true, laidLooks := .later }
def FnMoreKnownUptoCardSaid : Prop := Claim7.holds Tryz.pinned (.plain (OpenSpec.upto fnMoreKnownSpec)) fnMoreKnownUptoCard

/-- THE SECOND FORM's CARD OF 'laws.FnOneFor'. -/
def fnOneForUptoCard : Claim7 := { stood := { row := fnOneForUptoRow, standIns := [], harness := (true, "bb803ff4b7ab914dc38400ac5bff233a265edf129a5a2ccff27efd32c8c3cde1"), looks := true }, kinds := [], alts := [], laidByText := true, laidKinds := [.sentinel, .sentinel], laidTests := true, laidLooks := .later }
def FnOneForUptoCardSaid : Prop := Claim7.holds Tryz.pinned (.plain (OpenSpec.upto fnOneForSpec)) fnOneForUptoCard

/-- THE SECOND FORM's CARD OF 'laws.FnWitnessLess'. -/
def fnWitnessLessUptoCard : Claim7 := { stood := { row := fnWitnessLessUptoRow, standIns := [], harness := (true, "bb803ff4b7ab914dc38400ac5bff233a265edf129a5a2ccff27efd32c8c3cde1"), looks := true }, kinds := [], alts := [], laidByText := true, laidKinds := [.handle, .sentinel, .sentinel], laidTests := true, laidLooks := .later }
def FnWitnessLessUptoCardSaid : Prop := Claim7.holds Tryz.pinned (.plain (OpenSpec.upto fnWitnessLessSpec)) fnWitnessLessUptoCard

/-- THE SECOND FORM's CARD OF 'laws.FnExactWitness'. -/
def fnExactWitnessUptoCard : Claim7 := { stood := { row := fnExactWitnessUptoRow, standIns := [], harness := (true, "bb803ff4b7ab914dc38400ac5bff233a265edf129a5a2ccff27efd32c8c3cde1"), looks := true }, kinds := [], alts := [], laidByText := true, laidKinds := [.handle, .sentinel, .sentinel], laidTests := true, laidLooks := .later }
def FnExactWitnessUptoCardSaid : Prop := Claim7.holds Tryz.pinned (.plain (OpenSpec.upto fnExactWitnessSpec)) fnExactWitnessUptoCard

/-- THE SECOND FORM's CARD OF 'laws.FnExactPairsUnder'. -/
def fnExactPairsUnderUptoCard : Claim7 := { stood := { row := fnExactPairsUnderUptoRow, standIns := [], harness := (true, "bb803ff4b7ab914dc38400ac5bff233a265edf129a5a2ccff27efd32c8c3cde1"), looks := true }, kinds := [], alts := [], laidByText := true, laidKinds := [.sentinel, .sentinel], laidTests := true, laidLooks := .later }
def FnExactPairsUnderUptoCardSaid : Prop := Claim7.holds Tryz.pinned (.plain (OpenSpec.upto fnExactPairsUnderSpec)) fnExactPairsUnderUptoCard
end Rows
end Go.Proofs.YtgebjnoicgmdoaaGreatDoor
