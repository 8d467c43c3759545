/-
  DERIVED. GIVEN WITH THE SEED: THE CARDS: each row of YtfbkpdmphlgokaaDoorRows.lean that lists a variable, with what it lists TIED to the program's text (the seventh form; the later family's looks); each row that meets fmt, with fmt's text TOLD by the authors' own Lean function (tested against real Go, not proved from fmt's source: count such statements apart). THE CARD IS WHAT COUNTS. Prove the row's statement (the work); the ties are given (YtfbkpdmphlgokaaDoorTie.lean); close each card by the builder's one call (the guide's Derived/Test/ToyasCard.lean, 'card_holds'). Laid BY PROGRAM, IN A SANDBOX (cutbox-door.mjs). By AI agents, Wed Nov 11 2026. No macro, syntax, notation, axiom, sorry.
-/
import Derived.Test.YtfbkpdmphlgokaaDoorRows
import GoSem.ClaimSeven
namespace Go.Proofs.YtfbkpdmphlgokaaDoor
namespace Rows

/-- THE TIED CARD OF 'laws.FnExactParseCalls'. -/
def fnExactParseCallsCard : Claim7 := { stood := { row := fnExactParseCallsRow, standIns := [], harness := (true, "f4a7a427887f9e63e06b36e76d482795e9f5d258ecb0840073c273bc67f1ff5e"), looks := false }, kinds := [], alts := [], laidByText := true, laidKinds := [.data, .pinned], laidTests := true, laidLooks := .later }
def FnExactParseCallsCardSaid : Prop := Claim7.holds Tryd.pinned (.plain (OpenSpec.ofChange fnExactParseCallsSpec)) fnExactParseCallsCard

/-- THE TIED CARD OF 'laws.FnExactParseLetters'. -/
def fnExactParseLettersCard : Claim7 := { stood := { row := fnExactParseLettersRow, standIns := [], harness := (true, "f4a7a427887f9e63e06b36e76d482795e9f5d258ecb0840073c273bc67f1ff5e"), looks := false }, kinds := [], alts := [], laidByText := true, laidKinds := [.data, .pinned], laidTests := true, laidLooks := .later }
def FnExactParseLettersCardSaid : Prop := Claim7.holds Tryd.pinned (.plain (OpenSpec.ofChange fnExactParseLettersSpec)) fnExactParseLettersCard

/-- THE SECOND FORM's CARD OF 'laws.FnExactParseCalls'. -/
def fnExactParseCallsUptoCard : Claim7 := { stood := { row := fnExactParseCallsUptoRow, standIns := [], harness := (true, "f4a7a427887f9e63e06b36e76d482795e9f5d258ecb0840073c273bc67f1ff5e"), looks := false }, kinds := [], alts := [], laidByText := true, laidKinds := [.data, .pinned], laidTests := true, laidLooks := .later }
def FnExactParseCallsUptoCardSaid : Prop := Claim7.holds Tryd.pinned (.plain (OpenSpec.upto fnExactParseCallsSpec)) fnExactParseCallsUptoCard

/-- THE SECOND FORM's CARD OF 'laws.FnExactParseLetters'. -/
def fnExactParseLettersUptoCard : Claim7 := { stood := { row := fnExactParseLettersUptoRow, standIns := [], harness := (true, "f4a7a427887f9e63e06b36e76d482795e9f5d258ecb0840073c273bc67f1ff5e"), looks := false }, kinds := [], alts := [], laidByText := true, laidKinds := [.data, .pinned], laidTests := true, laidLooks := .later }
def FnExactParseLettersUptoCardSaid : Prop := Claim7.holds Tryd.pinned (.plain (OpenSpec.upto fnExactParseLettersSpec)) fnExactParseLettersUptoCard
end Rows
end Go.Proofs.YtfbkpdmphlgokaaDoor
