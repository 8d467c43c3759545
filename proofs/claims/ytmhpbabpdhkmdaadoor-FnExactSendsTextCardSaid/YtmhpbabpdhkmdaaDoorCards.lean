/-
  DERIVED. GIVEN WITH THE SEED: THE CARDS: each row of YtmhpbabpdhkmdaaDoorRows.lean that lists a variable, with what it lists TIED to the program's text (the seventh form; the later family's looks); each row that meets fmt, with fmt's text TOLD by the authors' own Lean function (tested against real Go, not proved from fmt's source: count such statements apart). THE CARD IS WHAT COUNTS. Prove the row's statement (the work); the ties are given (YtmhpbabpdhkmdaaDoorTie.lean); close each card by the builder's one call (the guide's Derived/Test/ToyasCard.lean, 'card_holds'). Laid BY PROGRAM, IN A SANDBOX (cutbox-door.mjs). By AI agents, Wed Nov 11 2026. No macro, syntax, notation, axiom, sorry.
-/
import Derived.Test.YtmhpbabpdhkmdaaDoorRows
import GoSem.ClaimSeven
namespace Go.Proofs.YtmhpbabpdhkmdaaDoor
namespace Rows

/-- THE TIED CARD OF 'laws.FnExactSendsText'. -/
def fnExactSendsTextCard : Claim7 := { stood := { row := fnExactSendsTextRow, standIns := [], harness := (true, "223396809c7e85914e34ae7c822bf3fdf924e0321300371d1c5e4ed8f5737f4b"), looks := true }, kinds := [], alts := [], laidByText := true, laidKinds := [.data, .data, .data], laidTests := true, laidLooks := .later }
def FnExactSendsTextCardSaid : Prop := Claim7.holds Tryd.pinned (.plain (OpenSpec.ofChange fnExactSendsTextSpec)) fnExactSendsTextCard

/-- THE TIED CARD OF 'laws.FnExactParseSends'. -/
def fnExactParseSendsCard : Claim7 := { stood := { row := fnExactParseSendsRow, standIns := [], harness := (true, "223396809c7e85914e34ae7c822bf3fdf924e0321300371d1c5e4ed8f5737f4b"), looks := true }, kinds := [], alts := [], laidByText := true, laidKinds := [.data, .data, .data, .data, .sentinel, .sentinel, .pinned], laidTests := true, laidLooks := .later }
def FnExactParseSendsCardSaid : Prop := Claim7.holds Tryd.pinned (.plain (OpenSpec.ofChange fnExactParseSendsSpec)) fnExactParseSendsCard

/-- THE SECOND FORM's CARD OF 'laws.FnExactSendsText'. -/
def fnExactSendsTextUptoCard : Claim7 := { stood := { row := fnExactSendsTextUptoRow, standIns := [], harness := (true, "223396809c7e85914e34ae7c822bf3fdf924e0321300371d1c5e4ed8f5737f4b"), looks := true }, kinds := [], alts := [], laidByText := true, laidKinds := [.data, .data, .data], laidTests := true, laidLooks := .later }
def FnExactSendsTextUptoCardSaid : Prop := Claim7.holds Tryd.pinned (.plain (OpenSpec.upto fnExactSendsTextSpec)) fnExactSendsTextUptoCard

/-- THE SECOND FORM's CARD OF 'laws.FnExactParseSends'. -/
def fnExactParseSendsUptoCard : Claim7 := { stood := { row := fnExactParseSendsUptoRow, standIns := [], harness := (true, "223396809c7e85914e34ae7c822bf3fdf924e0321300371d1c5e4ed8f5737f4b"), looks := true }, kinds := [], alts := [], laidByText := true, laidKinds := [.data, .data, .data, .data, .sentinel, .sentinel, .pinned], laidTests := true, laidLooks := .later }
def FnExactParseSendsUptoCardSaid : Prop := Claim7.holds Tryd.pinned (.plain (OpenSpec.upto fnExactParseSendsSpec)) fnExactParseSendsUptoCard
end Rows
end Go.Proofs.YtmhpbabpdhkmdaaDoor
