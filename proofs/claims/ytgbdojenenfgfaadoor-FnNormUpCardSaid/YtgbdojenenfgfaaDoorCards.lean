/-
  DERIVED. GIVEN WITH THE SEED: THE CARDS: each row of YtgbdojenenfgfaaDoorRows.lean that lists a variable, with what it lists TIED to the program's text (the seventh form; the later family's looks); each row that meets fmt, with fmt's text TOLD by the authors' own Lean function (tested against real Go, not proved from fmt's source: count such statements apart). THE CARD IS WHAT COUNTS. Prove the row's statement (the work); the ties are given (YtgbdojenenfgfaaDoorTie.lean); close each card by the builder's one call (the guide's Derived/Test/ToyasCard.lean, 'card_holds'). Laid BY PROGRAM, IN A SANDBOX (cutbox-door.mjs). By AI agents, Wed Nov 11 2026. No macro, syntax, notation, axiom, sorry.
-/
import Derived.Test.YtgbdojenenfgfaaDoorRows
import GoSem.ClaimSeven
namespace Go.Proofs.YtgbdojenenfgfaaDoor
namespace Rows

/-- THE TIED CARD OF 'laws.FnEval'. -/
def fnEvalCard : Claim7 := { stood := { row := fnEvalRow, standIns := [], harness := (true, "b60f552674d6440fbca9f0aea9c2927c6f5b784c650f2168d23c9478e170c5fb"), looks := false }, kinds := [], alts := [], laidByText := true, laidKinds := [.sentinel], laidTests := true, laidLooks := .later }
def FnEvalCardSaid : Prop := Claim7.holds Tryd.pinned (.plain (OpenSpec.ofChange fnEvalSpec)) fnEvalCard

/-- THE TIED CARD OF 'laws.FnNormUp'. -/
def fnNormUpCard : Claim7 := { stood := { row := fnNormUpRow, standIns := [], harness := (true, "b60f552674d6440fbca9f0aea9c2927c6f5b784c650f2168d23c9478e170c5fb"), looks := false }, kinds := [], alts := [], laidByText := true, laidKinds := [.sentinel], laidTests := true, laidLooks := .later }
def FnNormUpCardSaid : Prop := Claim7.holds Tryd.pinned (.plain (OpenSpec.ofChange fnNormUpSpec)) fnNormUpCard

/-- THE TIED CARD OF 'laws.FnExactNormLevel'. -/
def fnExactNormLevelCard : Claim7 := { stood := { row := fnExactNormLevelRow, standIns := [], harness := (true, "b60f552674d6440fbca9f0aea9c2927c6f5b784c650f2168d23c9478e170c5fb"), looks := false }, kinds := [], alts := [], laidByText := true, laidKinds := [.sentinel], laidTests := true, laidLooks := .later }
def FnExactNormLevelCardSaid : Prop := Claim7.holds Tryd.pinned (.plain (OpenSpec.ofChange fnExactNormLevelSpec)) fnExactNormLevelCard

/-- THE TIED CARD OF 'laws.FnExactNormFree'. -/
def fnExactNormFreeCard : Claim7 := { stood := { row := fnExactNormFreeRow, standIns := [], harness := (true, "b60f552674d6440fbca9f0aea9c2927c6f5b784c650f2168d23c9478e170c5fb"), looks := false }, kinds := [], alts := [], laidByText := true, laidKinds := [.sentinel], laidTests := true, laidLooks := .later }
def FnExactNormFreeCardSaid : Prop := Claim7.holds Tryd.pinned (.plain (OpenSpec.ofChange fnExactNormFreeSpec)) fnExactNormFreeCard

/-- THE SECOND FORM's CARD OF 'laws.FnEval'. -/
def fnEvalUptoCard : Claim7 := { stood := { row := fnEvalUptoRow, standIns := [], harness := (true, "b60f552674d6440fbca9f0aea9c2927c6f5b784c650f2168d23c9478e170c5fb"), looks := false }, kinds := [], alts := [], laidByText := true, laidKinds := [.sentinel], laidTests := true, laidLooks := .later }
def FnEvalUptoCardSaid : Prop := Claim7.holds Tryd.pinned (.plain (OpenSpec.upto fnEvalSpec)) fnEvalUptoCard

/-- THE SECOND FORM's CARD OF 'laws.FnNormUp'. -/
def fnNormUpUptoCard : Claim7 := { stood := { row := fnNormUpUptoRow, standIns := [], harness := (true, "b60f552674d6440fbca9f0aea9c2927c6f5b784c650f2168d23c9478e170c5fb"), looks := false }, kinds := [], alts := [], laidByText := true, laidKinds := [.sentinel], laidTests := true, laidLooks := .later }
def FnNormUpUptoCardSaid : Prop := Claim7.holds Tryd.pinned (.plain (OpenSpec.upto fnNormUpSpec)) fnNormUpUptoCard

/-- THE SECOND FORM's CARD OF 'laws.FnExactNormLevel'. -/
def fnExactNormLevelUptoCard : Claim7 := { stood := { row := fnExactNormLevelUptoRow, standIns := [], harness := (true, "b60f552674d6440fbca9f0aea9c2927c6f5b784c650f2168d23c9478e170c5fb"), looks := false }, kinds := [], alts := [], laidByText := true, laidKinds := [.sentinel], laidTests := true, laidLooks := .later }
def FnExactNormLevelUptoCardSaid : Prop := Claim7.holds Tryd.pinned (.plain (OpenSpec.upto fnExactNormLevelSpec)) fnExactNormLevelUptoCard

/-- THE SECOND FORM's CARD OF 'laws.FnExactNormFree'. -/
def fnExactNormFreeUptoCard : Claim7 := { stood := { row := fnExactNormFreeUptoRow, standIns := [], harness := (true, "b60f552674d6440fbca9f0aea9c2927c6f5b784c650f2168d23c9478e170c5fb"), looks := false }, kinds := [], alts := [], laidByText := true, laidKinds := [.sentinel], laidTests := true, laidLooks := .later }
def FnExactNormFreeUptoCardSaid : Prop := Claim7.holds Tryd.pinned (.plain (OpenSpec.upto fnExactNormFreeSpec)) fnExactNormFreeUptoCard
end Rows
end Go.Proofs.YtgbdojenenfgfaaDoor
