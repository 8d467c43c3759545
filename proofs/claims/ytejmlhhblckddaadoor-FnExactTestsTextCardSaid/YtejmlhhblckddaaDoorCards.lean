/-
  DERIVED. GIVEN WITH THE SEED: THE CARDS: each row of YtejmlhhblckddaaDoorRows.lean that lists a variable, with what it lists TIED to the program's text (the seventh form; the later family's looks); each row that meets fmt, with fmt's text TOLD by the authors' own Lean function (tested against real Go, not proved from fmt's source: count such statements apart). THE CARD IS WHAT COUNTS. Prove the row's statement (the work); the ties are given (YtejmlhhblckddaaDoorTie.lean); close each card by the builder's one call (the guide's Derived/Test/ToyasCard.lean, 'card_holds'). Laid BY PROGRAM, IN A SANDBOX (cutbox-door.mjs). By AI agents, Wed Nov 11 2026. No macro, syntax, notation, axiom, sorry.
-/
import Derived.Test.YtejmlhhblckddaaDoorRows
import GoSem.ClaimSeven
namespace Go.Proofs.YtejmlhhblckddaaDoor
namespace Rows

/-- THE TIED CARD OF 'laws.FnExactTestsText'. -/
def fnExactTestsTextCard : Claim7 := { stood := { row := fnExactTestsTextRow, standIns := [], harness := (true, "0673bc0fdbc58e54dbf243e897930af6c6542245974af563f3082ad617ca7021"), looks := false }, kinds := [], alts := [], laidByText := true, laidKinds := [.data, .data, .data], laidTests := true, laidLooks := .later }
def FnExactTestsTextCardSaid : Prop := Claim7.holds Tryd.pinned (.plain (OpenSpec.ofChange fnExactTestsTextSpec)) fnExactTestsTextCard

/-- THE TIED CARD OF 'laws.FnExactParseTests'. -/
def fnExactParseTestsCard : Claim7 := { stood := { row := fnExactParseTestsRow, standIns := [], harness := (true, "0673bc0fdbc58e54dbf243e897930af6c6542245974af563f3082ad617ca7021"), looks := false }, kinds := [], alts := [], laidByText := true, laidKinds := [.data, .pinned], laidTests := true, laidLooks := .later }
def FnExactParseTestsCardSaid : Prop := Claim7.holds Tryd.pinned (.plain (OpenSpec.ofChange fnExactParseTestsSpec)) fnExactParseTestsCard

/-- THE SECOND FORM's CARD OF 'laws.FnExactTestsText'. -/
def fnExactTestsTextUptoCard : Claim7 := { stood := { row := fnExactTestsTextUptoRow, standIns := [], harness := (true, "0673bc0fdbc58e54dbf243e897930af6c6542245974af563f3082ad617ca7021"), looks := false }, kinds := [], alts := [], laidByText := true, laidKinds := [.data, .data, .data], laidTests := true, laidLooks := .later }
def FnExactTestsTextUptoCardSaid : Prop := Claim7.holds Tryd.pinned (.plain (OpenSpec.upto fnExactTestsTextSpec)) fnExactTestsTextUptoCard

/-- THE SECOND FORM's CARD OF 'laws.FnExactParseTests'. -/
def fnExactParseTestsUptoCard : Claim7 := { stood := { row := fnExactParseTestsUptoRow, standIns := [], harness := (true, "0673bc0fdbc58e54dbf243e897930af6c6542245974af563f3082ad617ca7021"), looks := false }, kinds := [], alts := [], laidByText := true, laidKinds := [.data, .pinned], laidTests := true, laidLooks := .later }
def FnExactParseTestsUptoCardSaid : Prop := Claim7.holds Tryd.pinned (.plain (OpenSpec.upto fnExactParseTestsSpec)) fnExactParseTestsUptoCard
end Rows
end Go.Proofs.YtejmlhhblckddaaDoor
