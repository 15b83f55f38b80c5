/-
  DERIVED. GIVEN WITH THE SEED: THE CARDS: each row of YtfmhmnpmdjpmeaaDoorRows.lean that lists a variable, with what it lists TIED to the program's text (the seventh form; the later family's looks); each row that meets fmt, with fmt's text TOLD by the authors' own Lean function (tested against real Go, not proved from fmt's source: count such statements apart). THE CARD IS WHAT COUNTS. Prove the row's statement (the work); the ties are given (YtfmhmnpmdjpmeaaDoorTie.lean); close each card by the builder's one call (the guide's Derived/Test/ToyasCard.lean, 'card_holds'). Laid BY PROGRAM, IN A SANDBOX (cutbox-door.mjs). By AI agents, Wed Nov 11 2026. No macro, syntax, notation, axiom, sorry.
-/
import Derived.Test.YtfmhmnpmdjpmeaaDoorRows
import GoSem.ClaimSeven
namespace Go.Proofs.YtfmhmnpmdjpmeaaDoor
namespace Rows

/-- THE TIED CARD OF 'laws.FnExactArenaPut'. -/
def fnExactArenaPutCard : Claim7 := { stood := { row := fnExactArenaPutRow, standIns := [], harness := (true, "792c5fac24d9353682fc69ddc3f84f02b98a8ecd6fb35085b8b4646fb7d8e63e"), looks := false }, kinds := [], alts := [], laidByText := true, laidKinds := [.sentinel], laidTests := true, laidLooks := .later }
def FnExactArenaPutCardSaid : Prop := Claim7.holds Tryd.pinned (.plain (OpenSpec.ofChange fnExactArenaPutSpec)) fnExactArenaPutCard

/-- THE TIED CARD OF 'laws.FnExactArenaLevel'. -/
def fnExactArenaLevelCard : Claim7 := { stood := { row := fnExactArenaLevelRow, standIns := [], harness := (true, "792c5fac24d9353682fc69ddc3f84f02b98a8ecd6fb35085b8b4646fb7d8e63e"), looks := false }, kinds := [], alts := [], laidByText := true, laidKinds := [.sentinel], laidTests := true, laidLooks := .later }
def FnExactArenaLevelCardSaid : Prop := Claim7.holds Tryd.pinned (.plain (OpenSpec.ofChange fnExactArenaLevelSpec)) fnExactArenaLevelCard

/-- THE TIED CARD OF 'laws.FnExactArenaEval'. -/
def fnExactArenaEvalCard : Claim7 := { stood := { row := fnExactArenaEvalRow, standIns := [], harness := (true, "792c5fac24d9353682fc69ddc3f84f02b98a8ecd6fb35085b8b4646fb7d8e63e"), looks := false }, kinds := [], alts := [], laidByText := true, laidKinds := [.sentinel], laidTests := true, laidLooks := .later }
def FnExactArenaEvalCardSaid : Prop := Claim7.holds Tryd.pinned (.plain (OpenSpec.ofChange fnExactArenaEvalSpec)) fnExactArenaEvalCard

/-- THE TIED CARD OF 'laws.FnArena'. -/
def fnArenaCard : Claim7 := { stood := { row := fnArenaRow, standIns := [], harness := (true, "792c5fac24d9353682fc69ddc3f84f02b98a8ecd6fb35085b8b4646fb7d8e63e"), looks := false }, kinds := [], alts := [], laidByText := true, laidKinds := [.sentinel], laidTests := true, laidLooks := .later }
def FnArenaCardSaid : Prop := Claim7.holds Tryd.pinned (.plain (OpenSpec.ofChange fnArenaSpec)) fnArenaCard

/-- THE TIED CARD OF 'laws.FnParts'. -/
def fnPartsCard : Claim7 := { stood := { row := fnPartsRow, standIns := [], harness := (true, "792c5fac24d9353682fc69ddc3f84f02b98a8ecd6fb35085b8b4646fb7d8e63e"), looks := false }, kinds := [], alts := [], laidByText := true, laidKinds := [.sentinel], laidTests := true, laidLooks := .later }
def FnPartsCardSaid : Prop := Claim7.holds Tryd.pinned (.plain (OpenSpec.ofChange fnPartsSpec)) fnPartsCard

/-- THE TIED CARD OF 'laws.FnKeep'. -/
def fnKeepCard : Claim7 := { stood := { row := fnKeepRow, standIns := [], harness := (true, "792c5fac24d9353682fc69ddc3f84f02b98a8ecd6fb35085b8b4646fb7d8e63e"), looks := false }, kinds := [], alts := [], laidByText := true, laidKinds := [.sentinel], laidTests := true, laidLooks := .later }
def FnKeepCardSaid : Prop := Claim7.holds Tryd.pinned (.plain (OpenSpec.ofChange fnKeepSpec)) fnKeepCard

/-- THE TIED CARD OF 'laws.FnExactTermOk'. -/
def fnExactTermOkCard : Claim7 := { stood := { row := fnExactTermOkRow, standIns := [], harness := (true, "792c5fac24d9353682fc69ddc3f84f02b98a8ecd6fb35085b8b4646fb7d8e63e"), looks := false }, kinds := [], alts := [], laidByText := true, laidKinds := [.sentinel], laidTests := true, laidLooks := .later }
def FnExactTermOkCardSaid : Prop := Claim7.holds Tryd.pinned (.plain (OpenSpec.ofChange fnExactTermOkSpec)) fnExactTermOkCard

/-- THE TIED CARD OF 'laws.FnExactTermOpen'. -/
def fnExactTermOpenCard : Claim7 := { stood := { row := fnExactTermOpenRow, standIns := [], harness := (true, "792c5fac24d9353682fc69ddc3f84f02b98a8ecd6fb35085b8b4646fb7d8e63e"), looks := false }, kinds := [], alts := [], laidByText := true, laidKinds := [.sentinel], laidTests := true, laidLooks := .later }
def FnExactTermOpenCardSaid : Prop := Claim7.holds Tryd.pinned (.plain (OpenSpec.ofChange fnExactTermOpenSpec)) fnExactTermOpenCard

/-- THE SECOND FORM's CARD OF 'laws.FnExactArenaPut'. -/
def fnExactArenaPutUptoCard : Claim7 := { stood := { row := fnExactArenaPutUptoRow, standIns := [], harness := (true, "792c5fac24d9353682fc69ddc3f84f02b98a8ecd6fb35085b8b4646fb7d8e63e"), looks := false }, kinds := [], alts := [], laidByText := true, laidKinds := [.sentinel], laidTests := true, laidLooks := .later }
def FnExactArenaPutUptoCardSaid : Prop := Claim7.holds Tryd.pinned (.plain (OpenSpec.upto fnExactArenaPutSpec)) fnExactArenaPutUptoCard

/-- THE SECOND FORM's CARD OF 'laws.FnExactArenaLevel'. -/
def fnExactArenaLevelUptoCard : Claim7 := { stood := { row := fnExactArenaLevelUptoRow, standIns := [], harness := (true, "792c5fac24d9353682fc69ddc3f84f02b98a8ecd6fb35085b8b4646fb7d8e63e"), looks := false }, kinds := [], alts := [], laidByText := true, laidKinds := [.sentinel], laidTests := true, laidLooks := .later }
def FnExactArenaLevelUptoCardSaid : Prop := Claim7.holds Tryd.pinned (.plain (OpenSpec.upto fnExactArenaLevelSpec)) fnExactArenaLevelUptoCard

/-- THE SECOND FORM's CARD OF 'laws.FnExactArenaEval'. -/
def fnExactArenaEvalUptoCard : Claim7 := { stood := { row := fnExactArenaEvalUptoRow, standIns := [], harness := (true, "792c5fac24d9353682fc69ddc3f84f02b98a8ecd6fb35085b8b4646fb7d8e63e"), looks := false }, kinds := [], alts := [], laidByText := true, laidKinds := [.sentinel], laidTests := true, laidLooks := .later }
def FnExactArenaEvalUptoCardSaid : Prop := Claim7.holds Tryd.pinned (.plain (OpenSpec.upto fnExactArenaEvalSpec)) fnExactArenaEvalUptoCard

/-- THE SECOND FORM's CARD OF 'laws.FnArena'. -/
def fnArenaUptoCard : Claim7 := { stood := { row := fnArenaUptoRow, standIns := [], harness := (true, "792c5fac24d9353682fc69ddc3f84f02b98a8ecd6fb35085b8b4646fb7d8e63e"), looks := false }, kinds := [], alts := [], laidByText := true, laidKinds := [.sentinel], laidTests := true, laidLooks := .later }
def FnArenaUptoCardSaid : Prop := Claim7.holds Tryd.pinned (.plain (OpenSpec.upto fnArenaSpec)) fnArenaUptoCard

/-- THE SECOND FORM's CARD OF 'laws.FnParts'. -/
def fnPartsUptoCard : Claim7 := { stood := { row := fnPartsUptoRow, standIns := [], harness := (true, "792c5fac24d9353682fc69ddc3f84f02b98a8ecd6fb35085b8b4646fb7d8e63e"), looks := false }, kinds := [], alts := [], laidByText := true, laidKinds := [.sentinel], laidTests := true, laidLooks := .later }
def FnPartsUptoCardSaid : Prop := Claim7.holds Tryd.pinned (.plain (OpenSpec.upto fnPartsSpec)) fnPartsUptoCard

/-- THE SECOND FORM's CARD OF 'laws.FnKeep'. -/
def fnKeepUptoCard : Claim7 := { stood := { row := fnKeepUptoRow, standIns := [], harness := (true, "792c5fac24d9353682fc69ddc3f84f02b98a8ecd6fb35085b8b4646fb7d8e63e"), looks := false }, kinds := [], alts := [], laidByText := true, laidKinds := [.sentinel], laidTests := true, laidLooks := .later }
def FnKeepUptoCardSaid : Prop := Claim7.holds Tryd.pinned (.plain (OpenSpec.upto fnKeepSpec)) fnKeepUptoCard

/-- THE SECOND FORM's CARD OF 'laws.FnExactTermOk'. -/
def fnExactTermOkUptoCard : Claim7 := { stood := { row := fnExactTermOkUptoRow, standIns := [], harness := (true, "792c5fac24d9353682fc69ddc3f84f02b98a8ecd6fb35085b8b4646fb7d8e63e"), looks := false }, kinds := [], alts := [], laidByText := true, laidKinds := [.sentinel], laidTests := true, laidLooks := .later }
def FnExactTermOkUptoCardSaid : Prop := Claim7.holds Tryd.pinned (.plain (OpenSpec.upto fnExactTermOkSpec)) fnExactTermOkUptoCard

/-- THE SECOND FORM's CARD OF 'laws.FnExactTermOpen'. -/
def fnExactTermOpenUptoCard : Claim7 := { stood := { row := fnExactTermOpenUptoRow, standIns := [], harness := (true, "792c5fac24d9353682fc69ddc3f84f02b98a8ecd6fb35085b8b4646fb7d8e63e"), looks := false }, kinds := [], alts := [], laidByText := true, laidKinds := [.sentinel], laidTests := true, laidLooks := .later }
def FnExactTermOpenUptoCardSaid : Prop := Claim7.holds Tryd.pinned (.plain (OpenSpec.upto fnExactTermOpenSpec)) fnExactTermOpenUptoCard
end Rows
end Go.Proofs.YtfmhmnpmdjpmeaaDoor
