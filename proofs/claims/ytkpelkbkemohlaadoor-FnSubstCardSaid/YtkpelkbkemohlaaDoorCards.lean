/-
  DERIVED. GIVEN WITH THE SEED: THE CARDS: each row of YtkpelkbkemohlaaDoorRows.lean that lists a variable, with what it lists TIED to the program's text (the seventh form; the later family's looks); each row that meets fmt, with fmt's text TOLD by the authors' own Lean function (tested against real Go, not proved from fmt's source: count such statements apart). THE CARD IS WHAT COUNTS. Prove the row's statement (the work); the ties are given (YtkpelkbkemohlaaDoorTie.lean); close each card by the builder's one call (the guide's Derived/Test/ToyasCard.lean, 'card_holds'). Laid BY PROGRAM, IN A SANDBOX (cutbox-door.mjs). By AI agents, Wed Nov 11 2026. No macro, syntax, notation, axiom, sorry.
-/
import Derived.Test.YtkpelkbkemohlaaDoorRows
import GoSem.ClaimSeven
namespace Go.Proofs.YtkpelkbkemohlaaDoor
namespace Rows

/-- THE TIED CARD OF 'laws.FnEval'. -/
def fnEvalCard : Claim7 := { stood := { row := fnEvalRow, standIns := [], harness := (true, "08c31104d7f7af9accb399f5a13fed2ad3ecf85809a3215b63769a71cc24e7ac"), looks := false }, kinds := [], alts := [], laidByText := true, laidKinds := [.sentinel], laidTests := true, laidLooks := .later }
def FnEvalCardSaid : Prop := Claim7.holds Tryd.pinned (.plain (OpenSpec.ofChange fnEvalSpec)) fnEvalCard

/-- THE TIED CARD OF 'laws.FnSubst'. -/
def fnSubstCard : Claim7 := { stood := { row := fnSubstRow, standIns := [], harness := (true, "08c31104d7f7af9accb399f5a13fed2ad3ecf85809a3215b63769a71cc24e7ac"), looks := false }, kinds := [], alts := [], laidByText := true, laidKinds := [.sentinel], laidTests := true, laidLooks := .later }
def FnSubstCardSaid : Prop := Claim7.holds Tryd.pinned (.plain (OpenSpec.ofChange fnSubstSpec)) fnSubstCard

/-- THE TIED CARD OF 'laws.FnParams'. -/
def fnParamsCard : Claim7 := { stood := { row := fnParamsRow, standIns := [], harness := (true, "08c31104d7f7af9accb399f5a13fed2ad3ecf85809a3215b63769a71cc24e7ac"), looks := false }, kinds := [], alts := [], laidByText := true, laidKinds := [.sentinel], laidTests := true, laidLooks := .later }
def FnParamsCardSaid : Prop := Claim7.holds Tryd.pinned (.plain (OpenSpec.ofChange fnParamsSpec)) fnParamsCard

/-- THE TIED CARD OF 'laws.FnMonotone'. -/
def fnMonotoneCard : Claim7 := { stood := { row := fnMonotoneRow, standIns := [], harness := (true, "08c31104d7f7af9accb399f5a13fed2ad3ecf85809a3215b63769a71cc24e7ac"), looks := false }, kinds := [], alts := [], laidByText := true, laidKinds := [.sentinel], laidTests := true, laidLooks := .later }
def FnMonotoneCardSaid : Prop := Claim7.holds Tryd.pinned (.plain (OpenSpec.ofChange fnMonotoneSpec)) fnMonotoneCard

/-- THE TIED CARD OF 'laws.FnExactLevelOk'. -/
def fnExactLevelOkCard : Claim7 := { stood := { row := fnExactLevelOkRow, standIns := [], harness := (true, "08c31104d7f7af9accb399f5a13fed2ad3ecf85809a3215b63769a71cc24e7ac"), looks := false }, kinds := [], alts := [], laidByText := true, laidKinds := [.sentinel], laidTests := true, laidLooks := .later }
def FnExactLevelOkCardSaid : Prop := Claim7.holds Tryd.pinned (.plain (OpenSpec.ofChange fnExactLevelOkSpec)) fnExactLevelOkCard

/-- THE TIED CARD OF 'laws.FnExactLevelEval'. -/
def fnExactLevelEvalCard : Claim7 := { stood := { row := fnExactLevelEvalRow, standIns := [], harness := (true, "08c31104d7f7af9accb399f5a13fed2ad3ecf85809a3215b63769a71cc24e7ac"), looks := false }, kinds := [], alts := [], laidByText := true, laidKinds := [.sentinel], laidTests := true, laidLooks := .later }
def FnExactLevelEvalCardSaid : Prop := Claim7.holds Tryd.pinned (.plain (OpenSpec.ofChange fnExactLevelEvalSpec)) fnExactLevelEvalCard

/-- THE TIED CARD OF 'laws.FnExactLevelParams'. -/
def fnExactLevelParamsCard : Claim7 := { stood := { row := fnExactLevelParamsRow, standIns := [], harness := (true, "08c31104d7f7af9accb399f5a13fed2ad3ecf85809a3215b63769a71cc24e7ac"), looks := false }, kinds := [], alts := [], laidByText := true, laidKinds := [.sentinel], laidTests := true, laidLooks := .later }
def FnExactLevelParamsCardSaid : Prop := Claim7.holds Tryd.pinned (.plain (OpenSpec.ofChange fnExactLevelParamsSpec)) fnExactLevelParamsCard

/-- THE TIED CARD OF 'laws.FnExactLevelOff'. -/
def fnExactLevelOffCard : Claim7 := { stood := { row := fnExactLevelOffRow, standIns := [], harness := (true, "08c31104d7f7af9accb399f5a13fed2ad3ecf85809a3215b63769a71cc24e7ac"), looks := false }, kinds := [], alts := [], laidByText := true, laidKinds := [.sentinel], laidTests := true, laidLooks := .later }
def FnExactLevelOffCardSaid : Prop := Claim7.holds Tryd.pinned (.plain (OpenSpec.ofChange fnExactLevelOffSpec)) fnExactLevelOffCard

/-- THE TIED CARD OF 'laws.FnExactLevelSucc'. -/
def fnExactLevelSuccCard : Claim7 := { stood := { row := fnExactLevelSuccRow, standIns := [], harness := (true, "08c31104d7f7af9accb399f5a13fed2ad3ecf85809a3215b63769a71cc24e7ac"), looks := false }, kinds := [], alts := [], laidByText := true, laidKinds := [.sentinel], laidTests := true, laidLooks := .later }
def FnExactLevelSuccCardSaid : Prop := Claim7.holds Tryd.pinned (.plain (OpenSpec.ofChange fnExactLevelSuccSpec)) fnExactLevelSuccCard

/-- THE TIED CARD OF 'laws.FnExactLevelJoin'. -/
def fnExactLevelJoinCard : Claim7 := { stood := { row := fnExactLevelJoinRow, standIns := [], harness := (true, "08c31104d7f7af9accb399f5a13fed2ad3ecf85809a3215b63769a71cc24e7ac"), looks := false }, kinds := [], alts := [], laidByText := true, laidKinds := [.sentinel], laidTests := true, laidLooks := .later }
def FnExactLevelJoinCardSaid : Prop := Claim7.holds Tryd.pinned (.plain (OpenSpec.ofChange fnExactLevelJoinSpec)) fnExactLevelJoinCard

/-- THE TIED CARD OF 'laws.FnExactLevelSubst'. -/
def fnExactLevelSubstCard : Claim7 := { stood := { row := fnExactLevelSubstRow, standIns := [], harness := (true, "08c31104d7f7af9accb399f5a13fed2ad3ecf85809a3215b63769a71cc24e7ac"), looks := false }, kinds := [], alts := [], laidByText := true, laidKinds := [.sentinel], laidTests := true, laidLooks := .later }
def FnExactLevelSubstCardSaid : Prop := Claim7.holds Tryd.pinned (.plain (OpenSpec.ofChange fnExactLevelSubstSpec)) fnExactLevelSubstCard

/-- THE TIED CARD OF 'laws.FnExactLevelText'. -/
def fnExactLevelTextCard : Claim7 := { stood := { row := fnExactLevelTextRow, standIns := [], harness := (true, "08c31104d7f7af9accb399f5a13fed2ad3ecf85809a3215b63769a71cc24e7ac"), looks := false }, kinds := [], alts := [], laidByText := true, laidKinds := [.data, .data, .data, .sentinel], laidTests := true, laidLooks := .later }
def FnExactLevelTextCardSaid : Prop := Claim7.holds Tryd.pinned (.plain (OpenSpec.ofChange fnExactLevelTextSpec)) fnExactLevelTextCard

/-- THE SECOND FORM's CARD OF 'laws.FnEval'. -/
def fnEvalUptoCard : Claim7 := { stood := { row := fnEvalUptoRow, standIns := [], harness := (true, "08c31104d7f7af9accb399f5a13fed2ad3ecf85809a3215b63769a71cc24e7ac"), looks := false }, kinds := [], alts := [], laidByText := true, laidKinds := [.sentinel], laidTests := true, laidLooks := .later }
def FnEvalUptoCardSaid : Prop := Claim7.holds Tryd.pinned (.plain (OpenSpec.upto fnEvalSpec)) fnEvalUptoCard

/-- THE SECOND FORM's CARD OF 'laws.FnSubst'. -/
def fnSubstUptoCard : Claim7 := { stood := { row := fnSubstUptoRow, standIns := [], harness := (true, "08c31104d7f7af9accb399f5a13fed2ad3ecf85809a3215b63769a71cc24e7ac"), looks := false }, kinds := [], alts := [], laidByText := true, laidKinds := [.sentinel], laidTests := true, laidLooks := .later }
def FnSubstUptoCardSaid : Prop := Claim7.holds Tryd.pinned (.plain (OpenSpec.upto fnSubstSpec)) fnSubstUptoCard

/-- THE SECOND FORM's CARD OF 'laws.FnParams'. -/
def fnParamsUptoCard : Claim7 := { stood := { row := fnParamsUptoRow, standIns := [], harness := (true, "08c31104d7f7af9accb399f5a13fed2ad3ecf85809a3215b63769a71cc24e7ac"), looks := false }, kinds := [], alts := [], laidByText := true, laidKinds := [.sentinel], laidTests := true, laidLooks := .later }
def FnParamsUptoCardSaid : Prop := Claim7.holds Tryd.pinned (.plain (OpenSpec.upto fnParamsSpec)) fnParamsUptoCard

/-- THE SECOND FORM's CARD OF 'laws.FnMonotone'. -/
def fnMonotoneUptoCard : Claim7 := { stood := { row := fnMonotoneUptoRow, standIns := [], harness := (true, "08c31104d7f7af9accb399f5a13fed2ad3ecf85809a3215b63769a71cc24e7ac"), looks := false }, kinds := [], alts := [], laidByText := true, laidKinds := [.sentinel], laidTests := true, laidLooks := .later }
def FnMonotoneUptoCardSaid : Prop := Claim7.holds Tryd.pinned (.plain (OpenSpec.upto fnMonotoneSpec)) fnMonotoneUptoCard

/-- THE SECOND FORM's CARD OF 'laws.FnExactLevelOk'. -/
def fnExactLevelOkUptoCard : Claim7 := { stood := { row := fnExactLevelOkUptoRow, standIns := [], harness := (true, "08c31104d7f7af9accb399f5a13fed2ad3ecf85809a3215b63769a71cc24e7ac"), looks := false }, kinds := [], alts := [], laidByText := true, laidKinds := [.sentinel], laidTests := true, laidLooks := .later }
def FnExactLevelOkUptoCardSaid : Prop := Claim7.holds Tryd.pinned (.plain (OpenSpec.upto fnExactLevelOkSpec)) fnExactLevelOkUptoCard

/-- THE SECOND FORM's CARD OF 'laws.FnExactLevelEval'. -/
def fnExactLevelEvalUptoCard : Claim7 := { stood := { row := fnExactLevelEvalUptoRow, standIns := [], harness := (true, "08c31104d7f7af9accb399f5a13fed2ad3ecf85809a3215b63769a71cc24e7ac"), looks := false }, kinds := [], alts := [], laidByText := true, laidKinds := [.sentinel], laidTests := true, laidLooks := .later }
def FnExactLevelEvalUptoCardSaid : Prop := Claim7.holds Tryd.pinned (.plain (OpenSpec.upto fnExactLevelEvalSpec)) fnExactLevelEvalUptoCard

/-- THE SECOND FORM's CARD OF 'laws.FnExactLevelParams'. -/
def fnExactLevelParamsUptoCard : Claim7 := { stood := { row := fnExactLevelParamsUptoRow, standIns := [], harness := (true, "08c31104d7f7af9accb399f5a13fed2ad3ecf85809a3215b63769a71cc24e7ac"), looks := false }, kinds := [], alts := [], laidByText := true, laidKinds := [.sentinel], laidTests := true, laidLooks := .later }
def FnExactLevelParamsUptoCardSaid : Prop := Claim7.holds Tryd.pinned (.plain (OpenSpec.upto fnExactLevelParamsSpec)) fnExactLevelParamsUptoCard

/-- THE SECOND FORM's CARD OF 'laws.FnExactLevelOff'. -/
def fnExactLevelOffUptoCard : Claim7 := { stood := { row := fnExactLevelOffUptoRow, standIns := [], harness := (true, "08c31104d7f7af9accb399f5a13fed2ad3ecf85809a3215b63769a71cc24e7ac"), looks := false }, kinds := [], alts := [], laidByText := true, laidKinds := [.sentinel], laidTests := true, laidLooks := .later }
def FnExactLevelOffUptoCardSaid : Prop := Claim7.holds Tryd.pinned (.plain (OpenSpec.upto fnExactLevelOffSpec)) fnExactLevelOffUptoCard

/-- THE SECOND FORM's CARD OF 'laws.FnExactLevelSucc'. -/
def fnExactLevelSuccUptoCard : Claim7 := { stood := { row := fnExactLevelSuccUptoRow, standIns := [], harness := (true, "08c31104d7f7af9accb399f5a13fed2ad3ecf85809a3215b63769a71cc24e7ac"), looks := false }, kinds := [], alts := [], laidByText := true, laidKinds := [.sentinel], laidTests := true, laidLooks := .later }
def FnExactLevelSuccUptoCardSaid : Prop := Claim7.holds Tryd.pinned (.plain (OpenSpec.upto fnExactLevelSuccSpec)) fnExactLevelSuccUptoCard

/-- THE SECOND FORM's CARD OF 'laws.FnExactLevelJoin'. -/
def fnExactLevelJoinUptoCard : Claim7 := { stood := { row := fnExactLevelJoinUptoRow, standIns := [], harness := (true, "08c31104d7f7af9accb399f5a13fed2ad3ecf85809a3215b63769a71cc24e7ac"), looks := false }, kinds := [], alts := [], laidByText := true, laidKinds := [.sentinel], laidTests := true, laidLooks := .later }
def FnExactLevelJoinUptoCardSaid : Prop := Claim7.holds Tryd.pinned (.plain (OpenSpec.upto fnExactLevelJoinSpec)) fnExactLevelJoinUptoCard

/-- THE SECOND FORM's CARD OF 'laws.FnExactLevelSubst'. -/
def fnExactLevelSubstUptoCard : Claim7 := { stood := { row := fnExactLevelSubstUptoRow, standIns := [], harness := (true, "08c31104d7f7af9accb399f5a13fed2ad3ecf85809a3215b63769a71cc24e7ac"), looks := false }, kinds := [], alts := [], laidByText := true, laidKinds := [.sentinel], laidTests := true, laidLooks := .later }
def FnExactLevelSubstUptoCardSaid : Prop := Claim7.holds Tryd.pinned (.plain (OpenSpec.upto fnExactLevelSubstSpec)) fnExactLevelSubstUptoCard

/-- THE SECOND FORM's CARD OF 'laws.FnExactLevelText'. -/
def fnExactLevelTextUptoCard : Claim7 := { stood := { row := fnExactLevelTextUptoRow, standIns := [], harness := (true, "08c31104d7f7af9accb399f5a13fed2ad3ecf85809a3215b63769a71cc24e7ac"), looks := false }, kinds := [], alts := [], laidByText := true, laidKinds := [.data, .data, .data, .sentinel], laidTests := true, laidLooks := .later }
def FnExactLevelTextUptoCardSaid : Prop := Claim7.holds Tryd.pinned (.plain (OpenSpec.upto fnExactLevelTextSpec)) fnExactLevelTextUptoCard
end Rows
end Go.Proofs.YtkpelkbkemohlaaDoor
