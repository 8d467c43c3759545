/-
  DERIVED. GIVEN WITH THE SEED: THE CARDS: each row of YtjldfdaaoeomdaaDoorRows.lean that lists a variable, with what it lists TIED to the program's text (the seventh form; the later family's looks); each row that meets fmt, with fmt's text TOLD by the authors' own Lean function (tested against real Go, not proved from fmt's source: count such statements apart). THE CARD IS WHAT COUNTS. Prove the row's statement (the work); the ties are given (YtjldfdaaoeomdaaDoorTie.lean); close each card by the builder's one call (the guide's Derived/Test/ToyasCard.lean, 'card_holds'). Laid BY PROGRAM, IN A SANDBOX (cutbox-door.mjs). By AI agents, Wed Nov 11 2026. No macro, syntax, notation, axiom, sorry.
-/
import Derived.Test.YtjldfdaaoeomdaaDoorRows
import GoSem.ClaimSeven
namespace Go.Proofs.YtjldfdaaoeomdaaDoor
namespace Rows

/-- THE TIED CARD OF 'laws.FnExactRoundsText'. -/
def fnExactRoundsTextCard : Claim7 := { stood := { row := fnExactRoundsTextRow, standIns := [], harness := (true, "18a75407c04ec611c621099e1da276c04fbc337d2fa15d435fcea8099196a5eb"), looks := false }, kinds := [], alts := [], laidByText := true, laidKinds := [.data, .data, .data], laidTests := true, laidLooks := .later }
def FnExactRoundsTextCardSaid : Prop := Claim7.holds Tryd.pinned (.plain (OpenSpec.ofChange fnExactRoundsTextSpec)) fnExactRoundsTextCard

/-- THE TIED CARD OF 'laws.FnExactParseRounds'. -/
def fnExactParseRoundsCard : Claim7 := { stood := { row := fnExactParseRoundsRow, standIns := [], harness := (true, "18a75407c04ec611c621099e1da276c04fbc337d2fa15d435fcea8099196a5eb"), looks := false }, kinds := [], alts := [], laidByText := true, laidKinds := [.data, .pinned], laidTests := true, laidLooks := .later }
def FnExactParseRoundsCardSaid : Prop := Claim7.holds Tryd.pinned (.plain (OpenSpec.ofChange fnExactParseRoundsSpec)) fnExactParseRoundsCard

/-- THE SECOND FORM's CARD OF 'laws.FnExactRoundsText'. -/
def fnExactRoundsTextUptoCard : Claim7 := { stood := { row := fnExactRoundsTextUptoRow, standIns := [], harness := (true, "18a75407c04ec611c621099e1da276c04fbc337d2fa15d435fcea8099196a5eb"), looks := false }, kinds := [], alts := [], laidByText := true, laidKinds := [.data, .data, .data], laidTests := true, laidLooks := .later }
def FnExactRoundsTextUptoCardSaid : Prop := Claim7.holds Tryd.pinned (.plain (OpenSpec.upto fnExactRoundsTextSpec)) fnExactRoundsTextUptoCard

/-- THE SECOND FORM's CARD OF 'laws.FnExactParseRounds'. -/
def fnExactParseRoundsUptoCard : Claim7 := { stood := { row := fnExactParseRoundsUptoRow, standIns := [], harness := (true, "18a75407c04ec611c621099e1da276c04fbc337d2fa15d435fcea8099196a5eb"), looks := false }, kinds := [], alts := [], laidByText := true, laidKinds := [.data, .pinned], laidTests := true, laidLooks := .later }
def FnExactParseRoundsUptoCardSaid : Prop := Claim7.holds Tryd.pinned (.plain (OpenSpec.upto fnExactParseRoundsSpec)) fnExactParseRoundsUptoCard
end Rows
end Go.Proofs.YtjldfdaaoeomdaaDoor
