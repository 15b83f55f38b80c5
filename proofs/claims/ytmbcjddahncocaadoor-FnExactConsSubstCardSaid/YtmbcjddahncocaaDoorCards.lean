/-
  DERIVED. GIVEN WITH THE SEED: THE CARDS: each row of YtmbcjddahncocaaDoorRows.lean that lists a variable, with what it lists TIED to the program's text (the seventh form; the later family's looks); each row that meets fmt, with fmt's text TOLD by the authors' own Lean function (tested against real Go, not proved from fmt's source: count such statements apart). THE CARD IS WHAT COUNTS. Prove the row's statement (the work); the ties are given (YtmbcjddahncocaaDoorTie.lean); close each card by the builder's one call (the guide's Derived/Test/ToyasCard.lean, 'card_holds'). Laid BY PROGRAM, IN A SANDBOX (cutbox-door.mjs). By AI agents, Wed Nov 11 2026. No macro, syntax, notation, axiom, sorry.
-/
import Derived.Test.YtmbcjddahncocaaDoorRows
import GoSem.ClaimSeven
namespace Go.Proofs.YtmbcjddahncocaaDoor
namespace Rows

/-- THE TIED CARD OF 'laws.FnFree'. -/
def fnFreeCard : Claim7 := { stood := { row := fnFreeRow, standIns := [], harness := (true, "13765bf6dd72f7459ca7e4aa91ba4b91797ac94dbe650eb670888c56f3f17dba"), looks := false }, kinds := [], alts := [], laidByText := true, laidKinds := [.sentinel, .sentinel], laidTests := true, laidLooks := .later }
def FnFreeCardSaid : Prop := Claim7.holds Tryd.pinned (.plain (OpenSpec.ofChange fnFreeSpec)) fnFreeCard

/-- THE TIED CARD OF 'laws.FnImply'. -/
def fnImplyCard : Claim7 := { stood := { row := fnImplyRow, standIns := [], harness := (true, "13765bf6dd72f7459ca7e4aa91ba4b91797ac94dbe650eb670888c56f3f17dba"), looks := false }, kinds := [], alts := [], laidByText := true, laidKinds := [.sentinel, .sentinel], laidTests := true, laidLooks := .later }
def FnImplyCardSaid : Prop := Claim7.holds Tryd.pinned (.plain (OpenSpec.ofChange fnImplySpec)) fnImplyCard

/-- THE TIED CARD OF 'laws.FnSubstUnder'. -/
def fnSubstUnderCard : Claim7 := { stood := { row := fnSubstUnderRow, standIns := [], harness := (true, "13765bf6dd72f7459ca7e4aa91ba4b91797ac94dbe650eb670888c56f3f17dba"), looks := false }, kinds := [], alts := [], laidByText := true, laidKinds := [.sentinel, .sentinel], laidTests := true, laidLooks := .later }
def FnSubstUnderCardSaid : Prop := Claim7.holds Tryd.pinned (.plain (OpenSpec.ofChange fnSubstUnderSpec)) fnSubstUnderCard

/-- THE TIED CARD OF 'laws.FnAtoms'. -/
def fnAtomsCard : Claim7 := { stood := { row := fnAtomsRow, standIns := [], harness := (true, "13765bf6dd72f7459ca7e4aa91ba4b91797ac94dbe650eb670888c56f3f17dba"), looks := false }, kinds := [], alts := [], laidByText := true, laidKinds := [.sentinel, .sentinel], laidTests := true, laidLooks := .later }
def FnAtomsCardSaid : Prop := Claim7.holds Tryd.pinned (.plain (OpenSpec.ofChange fnAtomsSpec)) fnAtomsCard

/-- THE TIED CARD OF 'laws.FnSplit'. -/
def fnSplitCard : Claim7 := { stood := { row := fnSplitRow, standIns := [], harness := (true, "13765bf6dd72f7459ca7e4aa91ba4b91797ac94dbe650eb670888c56f3f17dba"), looks := false }, kinds := [], alts := [], laidByText := true, laidKinds := [.sentinel, .sentinel], laidTests := true, laidLooks := .later }
def FnSplitCardSaid : Prop := Claim7.holds Tryd.pinned (.plain (OpenSpec.ofChange fnSplitSpec)) fnSplitCard

/-- THE TIED CARD OF 'laws.FnExactLeUnder'. -/
def fnExactLeUnderCard : Claim7 := { stood := { row := fnExactLeUnderRow, standIns := [], harness := (true, "13765bf6dd72f7459ca7e4aa91ba4b91797ac94dbe650eb670888c56f3f17dba"), looks := false }, kinds := [], alts := [], laidByText := true, laidKinds := [.sentinel, .sentinel], laidTests := true, laidLooks := .later }
def FnExactLeUnderCardSaid : Prop := Claim7.holds Tryd.pinned (.plain (OpenSpec.ofChange fnExactLeUnderSpec)) fnExactLeUnderCard

/-- THE TIED CARD OF 'laws.FnExactEqUnder'. -/
def fnExactEqUnderCard : Claim7 := { stood := { row := fnExactEqUnderRow, standIns := [], harness := (true, "13765bf6dd72f7459ca7e4aa91ba4b91797ac94dbe650eb670888c56f3f17dba"), looks := false }, kinds := [], alts := [], laidByText := true, laidKinds := [.sentinel, .sentinel], laidTests := true, laidLooks := .later }
def FnExactEqUnderCardSaid : Prop := Claim7.holds Tryd.pinned (.plain (OpenSpec.ofChange fnExactEqUnderSpec)) fnExactEqUnderCard

/-- THE TIED CARD OF 'laws.FnExactConsSubst'. -/
def fnExactConsSubstCard : Claim7 := { stood := { row := fnExactConsSubstRow, standIns := [], harness := (true, "13765bf6dd72f7459ca7e4aa91ba4b91797ac94dbe650eb670888c56f3f17dba"), looks := false }, kinds := [], alts := [], laidByText := true, laidKinds := [.sentinel], laidTests := true, laidLooks := .later }
def FnExactConsSubstCardSaid : Prop := Claim7.holds Tryd.pinned (.plain (OpenSpec.ofChange fnExactConsSubstSpec)) fnExactConsSubstCard

/-- THE SECOND FORM's CARD OF 'laws.FnFree'. -/
def fnFreeUptoCard : Claim7 := { stood := { row := fnFreeUptoRow, standIns := [], harness := (true, "13765bf6dd72f7459ca7e4aa91ba4b91797ac94dbe650eb670888c56f3f17dba"), looks := false }, kinds := [], alts := [], laidByText := true, laidKinds := [.sentinel, .sentinel], laidTests := true, laidLooks := .later }
def FnFreeUptoCardSaid : Prop := Claim7.holds Tryd.pinned (.plain (OpenSpec.upto fnFreeSpec)) fnFreeUptoCard

/-- THE SECOND FORM's CARD OF 'laws.FnImply'. -/
def fnImplyUptoCard : Claim7 := { stood := { row := fnImplyUptoRow, standIns := [], harness := (true, "13765bf6dd72f7459ca7e4aa91ba4b91797ac94dbe650eb670888c56f3f17dba"), looks := false }, kinds := [], alts := [], laidByText := true, laidKinds := [.sentinel, .sentinel], laidTests := true, laidLooks := .later }
def FnImplyUptoCardSaid : Prop := Claim7.holds Tryd.pinned (.plain (OpenSpec.upto fnImplySpec)) fnImplyUptoCard

/-- THE SECOND FORM's CARD OF 'laws.FnSubstUnder'. -/
def fnSubstUnderUptoCard : Claim7 := { stood := { row := fnSubstUnderUptoRow, standIns := [], harness := (true, "13765bf6dd72f7459ca7e4aa91ba4b91797ac94dbe650eb670888c56f3f17dba"), looks := false }, kinds := [], alts := [], laidByText := true, laidKinds := [.sentinel, .sentinel], laidTests := true, laidLooks := .later }
def FnSubstUnderUptoCardSaid : Prop := Claim7.holds Tryd.pinned (.plain (OpenSpec.upto fnSubstUnderSpec)) fnSubstUnderUptoCard

/-- THE SECOND FORM's CARD OF 'laws.FnAtoms'. -/
def fnAtomsUptoCard : Claim7 := { stood := { row := fnAtomsUptoRow, standIns := [], harness := (true, "13765bf6dd72f7459ca7e4aa91ba4b91797ac94dbe650eb670888c56f3f17dba"), looks := false }, kinds := [], alts := [], laidByText := true, laidKinds := [.sentinel, .sentinel], laidTests := true, laidLooks := .later }
def FnAtomsUptoCardSaid : Prop := Claim7.holds Tryd.pinned (.plain (OpenSpec.upto fnAtomsSpec)) fnAtomsUptoCard

/-- THE SECOND FORM's CARD OF 'laws.FnSplit'. -/
def fnSplitUptoCard : Claim7 := { stood := { row := fnSplitUptoRow, standIns := [], harness := (true, "13765bf6dd72f7459ca7e4aa91ba4b91797ac94dbe650eb670888c56f3f17dba"), looks := false }, kinds := [], alts := [], laidByText := true, laidKinds := [.sentinel, .sentinel], laidTests := true, laidLooks := .later }
def FnSplitUptoCardSaid : Prop := Claim7.holds Tryd.pinned (.plain (OpenSpec.upto fnSplitSpec)) fnSplitUptoCard

/-- THE SECOND FORM's CARD OF 'laws.FnExactLeUnder'. -/
def fnExactLeUnderUptoCard : Claim7 := { stood := { row := fnExactLeUnderUptoRow, standIns := [], harness := (true, "13765bf6dd72f7459ca7e4aa91ba4b91797ac94dbe650eb670888c56f3f17dba"), looks := false }, kinds := [], alts := [], laidByText := true, laidKinds := [.sentinel, .sentinel], laidTests := true, laidLooks := .later }
def FnExactLeUnderUptoCardSaid : Prop := Claim7.holds Tryd.pinned (.plain (OpenSpec.upto fnExactLeUnderSpec)) fnExactLeUnderUptoCard

/-- THE SECOND FORM's CARD OF 'laws.FnExactEqUnder'. -/
def fnExactEqUnderUptoCard : Claim7 := { stood := { row := fnExactEqUnderUptoRow, standIns := [], harness := (true, "13765bf6dd72f7459ca7e4aa91ba4b91797ac94dbe650eb670888c56f3f17dba"), looks := false }, kinds := [], alts := [], laidByText := true, laidKinds := [.sentinel, .sentinel], laidTests := true, laidLooks := .later }
def FnExactEqUnderUptoCardSaid : Prop := Claim7.holds Tryd.pinned (.plain (OpenSpec.upto fnExactEqUnderSpec)) fnExactEqUnderUptoCard

/-- THE SECOND FORM's CARD OF 'laws.FnExactConsSubst'. -/
def fnExactConsSubstUptoCard : Claim7 := { stood := { row := fnExactConsSubstUptoRow, standIns := [], harness := (true, "13765bf6dd72f7459ca7e4aa91ba4b91797ac94dbe650eb670888c56f3f17dba"), looks := false }, kinds := [], alts := [], laidByText := true, laidKinds := [.sentinel], laidTests := true, laidLooks := .later }
def FnExactConsSubstUptoCardSaid : Prop := Claim7.holds Tryd.pinned (.plain (OpenSpec.upto fnExactConsSubstSpec)) fnExactConsSubstUptoCard
end Rows
end Go.Proofs.YtmbcjddahncocaaDoor
