/-
  DERIVED. GIVEN WITH THE SEED: THE CARDS: each row of YtnhkabhchepieaaDoorRows.lean that lists a variable, with what it lists TIED to the program's text (the seventh form; the later family's looks); each row that meets fmt, with fmt's text TOLD by the authors' own Lean function (tested against real Go, not proved from fmt's source: count such statements apart). THE CARD IS WHAT COUNTS. Prove the row's statement (the work); the ties are given (YtnhkabhchepieaaDoorTie.lean); close each card by the builder's one call (the guide's Derived/Test/ToyasCard.lean, 'card_holds'). Laid BY PROGRAM, IN A SANDBOX (cutbox-door.mjs). By AI agents, Wed Nov 11 2026. No macro, syntax, notation, axiom, sorry.
-/
import Derived.Test.YtnhkabhchepieaaDoorRows
import GoSem.ClaimSeven
namespace Go.Proofs.YtnhkabhchepieaaDoor
namespace Rows

/-- THE TIED CARD OF 'laws.FnExactTestsText'. -/
def fnExactTestsTextCard : Claim7 := { stood := { row := fnExactTestsTextRow, standIns := [], harness := (true, "6a9b838952b188833b03a348443313497573a57ccb664957582b8792f1167d90"), looks := true }, kinds := [], alts := [], laidByText := true, laidKinds := [.data, .data, .data], laidTests := true, laidLooks := .later }
def FnExactTestsTextCardSaid : Prop := Claim7.holds Tryd.pinned (.plain (OpenSpec.ofChange fnExactTestsTextSpec)) fnExactTestsTextCard

/-- THE TIED CARD OF 'laws.FnExactParseTests'. -/
def fnExactParseTestsCard : Claim7 := { stood := { row := fnExactParseTestsRow, standIns := [], harness := (true, "6a9b838952b188833b03a348443313497573a57ccb664957582b8792f1167d90"), looks := true }, kinds := [], alts := [], laidByText := true, laidKinds := [.data, .pinned], laidTests := true, laidLooks := .later }
def FnExactParseTestsCardSaid : Prop := Claim7.holds Tryd.pinned (.plain (OpenSpec.ofChange fnExactParseTestsSpec)) fnExactParseTestsCard

/-- THE TIED CARD OF 'laws.FnExactParseSends'. -/
def fnExactParseSendsCard : Claim7 := { stood := { row := fnExactParseSendsRow, standIns := [], harness := (true, "6a9b838952b188833b03a348443313497573a57ccb664957582b8792f1167d90"), looks := true }, kinds := [], alts := [], laidByText := true, laidKinds := [.data, .data, .data, .data, .sentinel, .sentinel, .pinned], laidTests := true, laidLooks := .later }
def FnExactParseSendsCardSaid : Prop := Claim7.holds Tryd.pinned (.plain (OpenSpec.ofChange fnExactParseSendsSpec)) fnExactParseSendsCard

/-- THE TIED CARD OF 'laws.FnExactSureCalls'. -/
def fnExactSureCallsCard : Claim7 := { stood := { row := fnExactSureCallsRow, standIns := [], harness := (true, "6a9b838952b188833b03a348443313497573a57ccb664957582b8792f1167d90"), looks := true }, kinds := [], alts := [], laidByText := true, laidKinds := [.data, .data, .data], laidTests := true, laidLooks := .later }
def FnExactSureCallsCardSaid : Prop := Claim7.holds Tryd.pinned (.plain (OpenSpec.ofChange fnExactSureCallsSpec)) fnExactSureCallsCard

/-- THE TIED CARD OF 'laws.FnExactPuzzleText'. -/
def fnExactPuzzleTextCard : Claim7 := { stood := { row := fnExactPuzzleTextRow, standIns := [], harness := (true, "6a9b838952b188833b03a348443313497573a57ccb664957582b8792f1167d90"), looks := true }, kinds := [], alts := [], laidByText := true, laidKinds := [.data, .data, .data], laidTests := true, laidLooks := .later }
def FnExactPuzzleTextCardSaid : Prop := Claim7.holds Tryd.pinned (.plain (OpenSpec.ofChange fnExactPuzzleTextSpec)) fnExactPuzzleTextCard

/-- THE SECOND FORM's CARD OF 'laws.FnExactTestsText'. -/
def fnExactTestsTextUptoCard : Claim7 := { stood := { row := fnExactTestsTextUptoRow, standIns := [], harness := (true, "6a9b838952b188833b03a348443313497573a57ccb664957582b8792f1167d90"), looks := true }, kinds := [], alts := [], laidByText := true, laidKinds := [.data, .data, .data], laidTests := true, laidLooks := .later }
def FnExactTestsTextUptoCardSaid : Prop := Claim7.holds Tryd.pinned (.plain (OpenSpec.upto fnExactTestsTextSpec)) fnExactTestsTextUptoCard

/-- THE SECOND FORM's CARD OF 'laws.FnExactParseTests'. -/
def fnExactParseTestsUptoCard : Claim7 := { stood := { row := fnExactParseTestsUptoRow, standIns := [], harness := (true, "6a9b838952b188833b03a348443313497573a57ccb664957582b8792f1167d90"), looks := true }, kinds := [], alts := [], laidByText := true, laidKinds := [.data, .pinned], laidTests := true, laidLooks := .later }
def FnExactParseTestsUptoCardSaid : Prop := Claim7.holds Tryd.pinned (.plain (OpenSpec.upto fnExactParseTestsSpec)) fnExactParseTestsUptoCard

/-- THE SECOND FORM's CARD OF 'laws.FnExactParseSends'. -/
def fnExactParseSendsUptoCard : Claim7 := { stood := { row := fnExactParseSendsUptoRow, standIns := [], harness := (true, "6a9b838952b188833b03a348443313497573a57ccb664957582b8792f1167d90"), looks := true }, kinds := [], alts := [], laidByText := true, laidKinds := [.data, .data, .data, .data, .sentinel, .sentinel, .pinned], laidTests := true, laidLooks := .later }
def FnExactParseSendsUptoCardSaid : Prop := Claim7.holds Tryd.pinned (.plain (OpenSpec.upto fnExactParseSendsSpec)) fnExactParseSendsUptoCard

/-- THE SECOND FORM's CARD OF 'laws.FnExactSureCalls'. -/
def fnExactSureCallsUptoCard : Claim7 := { stood := { row := fnExactSureCallsUptoRow, standIns := [], harness := (true, "6a9b838952b188833b03a348443313497573a57ccb664957582b8792f1167d90"), looks := true }, kinds := [], alts := [], laidByText := true, laidKinds := [.data, .data, .data], laidTests := true, laidLooks := .later }
def FnExactSureCallsUptoCardSaid : Prop := Claim7.holds Tryd.pinned (.plain (OpenSpec.upto fnExactSureCallsSpec)) fnExactSureCallsUptoCard

/-- THE SECOND FORM's CARD OF 'laws.FnExactPuzzleText'. -/
def fnExactPuzzleTextUptoCard : Claim7 := { stood := { row := fnExactPuzzleTextUptoRow, standIns := [], harness := (true, "6a9b838952b188833b03a348443313497573a57ccb664957582b8792f1167d90"), looks := true }, kinds := [], alts := [], laidByText := true, laidKinds := [.data, .data, .data], laidTests := true, laidLooks := .later }
def FnExactPuzzleTextUptoCardSaid : Prop := Claim7.holds Tryd.pinned (.plain (OpenSpec.upto fnExactPuzzleTextSpec)) fnExactPuzzleTextUptoCard
end Rows
end Go.Proofs.YtnhkabhchepieaaDoor
