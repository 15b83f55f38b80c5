/-
  DERIVED. GIVEN WITH THE SEED: THE CARDS: each row of YtghoofgfimeedaaDoorRows.lean that lists a variable, with what it lists TIED to the program's text (the seventh form; the later family's looks); each row that meets fmt, with fmt's text TOLD by the authors' own Lean function (tested against real Go, not proved from fmt's source: count such statements apart). THE CARD IS WHAT COUNTS. Prove the row's statement (the work); the ties are given (YtghoofgfimeedaaDoorTie.lean); close each card by the builder's one call (the guide's Derived/Test/ToyasCard.lean, 'card_holds'). Laid BY PROGRAM, IN A SANDBOX (cutbox-door.mjs). By AI agents, Wed Nov 11 2026. No macro, syntax, notation, axiom, sorry.
-/
import Derived.Test.YtghoofgfimeedaaDoorRows
import GoSem.ClaimSeven
namespace Go.Proofs.YtghoofgfimeedaaDoor
namespace Rows

/-- THE TIED CARD OF 'laws.FnNormFree'. -/
def fnNormFreeCard : Claim7 := { stood := { row := fnNormFreeRow, standIns := [], harness := (true, "3e9e373e68314727ae246c3f51fb93ad6792c7dc89bbb052eb15e4a717e6667e"), looks := false }, kinds := [], alts := [], laidByText := true, laidKinds := [.sentinel], laidTests := true, laidLooks := .later }
def FnNormFreeCardSaid : Prop := Claim7.holds Tryd.pinned (.plain (OpenSpec.ofChange fnNormFreeSpec)) fnNormFreeCard

/-- THE TIED CARD OF 'laws.FnOrder'. -/
def fnOrderCard : Claim7 := { stood := { row := fnOrderRow, standIns := [], harness := (true, "3e9e373e68314727ae246c3f51fb93ad6792c7dc89bbb052eb15e4a717e6667e"), looks := false }, kinds := [], alts := [], laidByText := true, laidKinds := [.sentinel], laidTests := true, laidLooks := .later }
def FnOrderCardSaid : Prop := Claim7.holds Tryd.pinned (.plain (OpenSpec.ofChange fnOrderSpec)) fnOrderCard

/-- THE TIED CARD OF 'laws.FnJoinLe'. -/
def fnJoinLeCard : Claim7 := { stood := { row := fnJoinLeRow, standIns := [], harness := (true, "3e9e373e68314727ae246c3f51fb93ad6792c7dc89bbb052eb15e4a717e6667e"), looks := false }, kinds := [], alts := [], laidByText := true, laidKinds := [.sentinel], laidTests := true, laidLooks := .later }
def FnJoinLeCardSaid : Prop := Claim7.holds Tryd.pinned (.plain (OpenSpec.ofChange fnJoinLeSpec)) fnJoinLeCard

/-- THE TIED CARD OF 'laws.FnImax'. -/
def fnImaxCard : Claim7 := { stood := { row := fnImaxRow, standIns := [], harness := (true, "3e9e373e68314727ae246c3f51fb93ad6792c7dc89bbb052eb15e4a717e6667e"), looks := false }, kinds := [], alts := [], laidByText := true, laidKinds := [.sentinel], laidTests := true, laidLooks := .later }
def FnImaxCardSaid : Prop := Claim7.holds Tryd.pinned (.plain (OpenSpec.ofChange fnImaxSpec)) fnImaxCard

/-- THE TIED CARD OF 'laws.FnExactLevelLe'. -/
def fnExactLevelLeCard : Claim7 := { stood := { row := fnExactLevelLeRow, standIns := [], harness := (true, "3e9e373e68314727ae246c3f51fb93ad6792c7dc89bbb052eb15e4a717e6667e"), looks := false }, kinds := [], alts := [], laidByText := true, laidKinds := [.sentinel], laidTests := true, laidLooks := .later }
def FnExactLevelLeCardSaid : Prop := Claim7.holds Tryd.pinned (.plain (OpenSpec.ofChange fnExactLevelLeSpec)) fnExactLevelLeCard

/-- THE TIED CARD OF 'laws.FnExactLevelLess'. -/
def fnExactLevelLessCard : Claim7 := { stood := { row := fnExactLevelLessRow, standIns := [], harness := (true, "3e9e373e68314727ae246c3f51fb93ad6792c7dc89bbb052eb15e4a717e6667e"), looks := false }, kinds := [], alts := [], laidByText := true, laidKinds := [.sentinel], laidTests := true, laidLooks := .later }
def FnExactLevelLessCardSaid : Prop := Claim7.holds Tryd.pinned (.plain (OpenSpec.ofChange fnExactLevelLessSpec)) fnExactLevelLessCard

/-- THE TIED CARD OF 'laws.FnExactLevelEq'. -/
def fnExactLevelEqCard : Claim7 := { stood := { row := fnExactLevelEqRow, standIns := [], harness := (true, "3e9e373e68314727ae246c3f51fb93ad6792c7dc89bbb052eb15e4a717e6667e"), looks := false }, kinds := [], alts := [], laidByText := true, laidKinds := [.sentinel], laidTests := true, laidLooks := .later }
def FnExactLevelEqCardSaid : Prop := Claim7.holds Tryd.pinned (.plain (OpenSpec.ofChange fnExactLevelEqSpec)) fnExactLevelEqCard

/-- THE TIED CARD OF 'laws.FnExactCounter'. -/
def fnExactCounterCard : Claim7 := { stood := { row := fnExactCounterRow, standIns := [], harness := (true, "3e9e373e68314727ae246c3f51fb93ad6792c7dc89bbb052eb15e4a717e6667e"), looks := false }, kinds := [], alts := [], laidByText := true, laidKinds := [.sentinel], laidTests := true, laidLooks := .later }
def FnExactCounterCardSaid : Prop := Claim7.holds Tryd.pinned (.plain (OpenSpec.ofChange fnExactCounterSpec)) fnExactCounterCard

/-- THE TIED CARD OF 'laws.FnExactLevelIdle'. -/
def fnExactLevelIdleCard : Claim7 := { stood := { row := fnExactLevelIdleRow, standIns := [], harness := (true, "3e9e373e68314727ae246c3f51fb93ad6792c7dc89bbb052eb15e4a717e6667e"), looks := false }, kinds := [], alts := [], laidByText := true, laidKinds := [.sentinel], laidTests := true, laidLooks := .later }
def FnExactLevelIdleCardSaid : Prop := Claim7.holds Tryd.pinned (.plain (OpenSpec.ofChange fnExactLevelIdleSpec)) fnExactLevelIdleCard

/-- THE TIED CARD OF 'laws.FnExactLevelTrim'. -/
def fnExactLevelTrimCard : Claim7 := { stood := { row := fnExactLevelTrimRow, standIns := [], harness := (true, "3e9e373e68314727ae246c3f51fb93ad6792c7dc89bbb052eb15e4a717e6667e"), looks := false }, kinds := [], alts := [], laidByText := true, laidKinds := [.sentinel], laidTests := true, laidLooks := .later }
def FnExactLevelTrimCardSaid : Prop := Claim7.holds Tryd.pinned (.plain (OpenSpec.ofChange fnExactLevelTrimSpec)) fnExactLevelTrimCard

/-- THE TIED CARD OF 'laws.FnExactLevelConst'. -/
def fnExactLevelConstCard : Claim7 := { stood := { row := fnExactLevelConstRow, standIns := [], harness := (true, "3e9e373e68314727ae246c3f51fb93ad6792c7dc89bbb052eb15e4a717e6667e"), looks := false }, kinds := [], alts := [], laidByText := true, laidKinds := [.sentinel], laidTests := true, laidLooks := .later }
def FnExactLevelConstCardSaid : Prop := Claim7.holds Tryd.pinned (.plain (OpenSpec.ofChange fnExactLevelConstSpec)) fnExactLevelConstCard

/-- THE SECOND FORM's CARD OF 'laws.FnNormFree'. -/
def fnNormFreeUptoCard : Claim7 := { stood := { row := fnNormFreeUptoRow, standIns := [], harness := (true, "3e9e373e68314727ae246c3f51fb93ad6792c7dc89bbb052eb15e4a717e6667e"), looks := false }, kinds := [], alts := [], laidByText := true, laidKinds := [.sentinel], laidTests := true, laidLooks := .later }
def FnNormFreeUptoCardSaid : Prop := Claim7.holds Tryd.pinned (.plain (OpenSpec.upto fnNormFreeSpec)) fnNormFreeUptoCard

/-- THE SECOND FORM's CARD OF 'laws.FnOrder'. -/
def fnOrderUptoCard : Claim7 := { stood := { row := fnOrderUptoRow, standIns := [], harness := (true, "3e9e373e68314727ae246c3f51fb93ad6792c7dc89bbb052eb15e4a717e6667e"), looks := false }, kinds := [], alts := [], laidByText := true, laidKinds := [.sentinel], laidTests := true, laidLooks := .later }
def FnOrderUptoCardSaid : Prop := Claim7.holds Tryd.pinned (.plain (OpenSpec.upto fnOrderSpec)) fnOrderUptoCard

/-- THE SECOND FORM's CARD OF 'laws.FnJoinLe'. -/
def fnJoinLeUptoCard : Claim7 := { stood := { row := fnJoinLeUptoRow, standIns := [], harness := (true, "3e9e373e68314727ae246c3f51fb93ad6792c7dc89bbb052eb15e4a717e6667e"), looks := false }, kinds := [], alts := [], laidByText := true, laidKinds := [.sentinel], laidTests := true, laidLooks := .later }
def FnJoinLeUptoCardSaid : Prop := Claim7.holds Tryd.pinned (.plain (OpenSpec.upto fnJoinLeSpec)) fnJoinLeUptoCard

/-- THE SECOND FORM's CARD OF 'laws.FnImax'. -/
def fnImaxUptoCard : Claim7 := { stood := { row := fnImaxUptoRow, standIns := [], harness := (true, "3e9e373e68314727ae246c3f51fb93ad6792c7dc89bbb052eb15e4a717e6667e"), looks := false }, kinds := [], alts := [], laidByText := true, laidKinds := [.sentinel], laidTests := true, laidLooks := .later }
def FnImaxUptoCardSaid : Prop := Claim7.holds Tryd.pinned (.plain (OpenSpec.upto fnImaxSpec)) fnImaxUptoCard

/-- THE SECOND FORM's CARD OF 'laws.FnExactLevelLe'. -/
def fnExactLevelLeUptoCard : Claim7 := { stood := { row := fnExactLevelLeUptoRow, standIns := [], harness := (true, "3e9e373e68314727ae246c3f51fb93ad6792c7dc89bbb052eb15e4a717e6667e"), looks := false }, kinds := [], alts := [], laidByText := true, laidKinds := [.sentinel], laidTests := true, laidLooks := .later }
def FnExactLevelLeUptoCardSaid : Prop := Claim7.holds Tryd.pinned (.plain (OpenSpec.upto fnExactLevelLeSpec)) fnExactLevelLeUptoCard

/-- THE SECOND FORM's CARD OF 'laws.FnExactLevelLess'. -/
def fnExactLevelLessUptoCard : Claim7 := { stood := { row := fnExactLevelLessUptoRow, standIns := [], harness := (true, "3e9e373e68314727ae246c3f51fb93ad6792c7dc89bbb052eb15e4a717e6667e"), looks := false }, kinds := [], alts := [], laidByText := true, laidKinds := [.sentinel], laidTests := true, laidLooks := .later }
def FnExactLevelLessUptoCardSaid : Prop := Claim7.holds Tryd.pinned (.plain (OpenSpec.upto fnExactLevelLessSpec)) fnExactLevelLessUptoCard

/-- THE SECOND FORM's CARD OF 'laws.FnExactLevelEq'. -/
def fnExactLevelEqUptoCard : Claim7 := { stood := { row := fnExactLevelEqUptoRow, standIns := [], harness := (true, "3e9e373e68314727ae246c3f51fb93ad6792c7dc89bbb052eb15e4a717e6667e"), looks := false }, kinds := [], alts := [], laidByText := true, laidKinds := [.sentinel], laidTests := true, laidLooks := .later }
def FnExactLevelEqUptoCardSaid : Prop := Claim7.holds Tryd.pinned (.plain (OpenSpec.upto fnExactLevelEqSpec)) fnExactLevelEqUptoCard

/-- THE SECOND FORM's CARD OF 'laws.FnExactCounter'. -/
def fnExactCounterUptoCard : Claim7 := { stood := { row := fnExactCounterUptoRow, standIns := [], harness := (true, "3e9e373e68314727ae246c3f51fb93ad6792c7dc89bbb052eb15e4a717e6667e"), looks := false }, kinds := [], alts := [], laidByText := true, laidKinds := [.sentinel], laidTests := true, laidLooks := .later }
def FnExactCounterUptoCardSaid : Prop := Claim7.holds Tryd.pinned (.plain (OpenSpec.upto fnExactCounterSpec)) fnExactCounterUptoCard

/-- THE SECOND FORM's CARD OF 'laws.FnExactLevelIdle'. -/
def fnExactLevelIdleUptoCard : Claim7 := { stood := { row := fnExactLevelIdleUptoRow, standIns := [], harness := (true, "3e9e373e68314727ae246c3f51fb93ad6792c7dc89bbb052eb15e4a717e6667e"), looks := false }, kinds := [], alts := [], laidByText := true, laidKinds := [.sentinel], laidTests := true, laidLooks := .later }
def FnExactLevelIdleUptoCardSaid : Prop := Claim7.holds Tryd.pinned (.plain (OpenSpec.upto fnExactLevelIdleSpec)) fnExactLevelIdleUptoCard

/-- THE SECOND FORM's CARD OF 'laws.FnExactLevelTrim'. -/
def fnExactLevelTrimUptoCard : Claim7 := { stood := { row := fnExactLevelTrimUptoRow, standIns := [], harness := (true, "3e9e373e68314727ae246c3f51fb93ad6792c7dc89bbb052eb15e4a717e6667e"), looks := false }, kinds := [], alts := [], laidByText := true, laidKinds := [.sentinel], laidTests := true, laidLooks := .later }
def FnExactLevelTrimUptoCardSaid : Prop := Claim7.holds Tryd.pinned (.plain (OpenSpec.upto fnExactLevelTrimSpec)) fnExactLevelTrimUptoCard

/-- THE SECOND FORM's CARD OF 'laws.FnExactLevelConst'. -/
def fnExactLevelConstUptoCard : Claim7 := { stood := { row := fnExactLevelConstUptoRow, standIns := [], harness := (true, "3e9e373e68314727ae246c3f51fb93ad6792c7dc89bbb052eb15e4a717e6667e"), looks := false }, kinds := [], alts := [], laidByText := true, laidKinds := [.sentinel], laidTests := true, laidLooks := .later }
def FnExactLevelConstUptoCardSaid : Prop := Claim7.holds Tryd.pinned (.plain (OpenSpec.upto fnExactLevelConstSpec)) fnExactLevelConstUptoCard
end Rows
end Go.Proofs.YtghoofgfimeedaaDoor
