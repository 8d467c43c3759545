/-
  DERIVED. GIVEN WITH THE SEED: THE CARDS: each row of YtenbpmdieoddbaaDoorRows.lean that lists a variable, with what it lists TIED to the program's text (the seventh form; the later family's looks); each row that meets fmt, with fmt's text TOLD by the authors' own Lean function (tested against real Go, not proved from fmt's source: count such statements apart). THE CARD IS WHAT COUNTS. Prove the row's statement (the work); the ties are given (YtenbpmdieoddbaaDoorTie.lean); close each card by the builder's one call (the guide's Derived/Test/ToyasCard.lean, 'card_holds'). Laid BY PROGRAM, IN A SANDBOX (cutbox-door.mjs). By AI agents, Wed Nov 11 2026. No macro, syntax, notation, axiom, sorry.
-/
import Derived.Test.YtenbpmdieoddbaaDoorRows
import GoSem.ClaimSeven
namespace Go.Proofs.YtenbpmdieoddbaaDoor
namespace Rows

/-- THE TIED CARD OF 'laws.FnExactCallsText'. -/
def fnExactCallsTextCard : Claim7 := { stood := { row := fnExactCallsTextRow, standIns := [], harness := (true, "31ada1d8fd6ec82e7ae7aee26f2c024e46733c9a388c8a29a1f485ffd9a2c6ba"), looks := false }, kinds := [], alts := [], laidByText := true, laidKinds := [.data, .data, .data], laidTests := true, laidLooks := .later }
def FnExactCallsTextCardSaid : Prop := Claim7.holds Tryd.pinned (.plain (OpenSpec.ofChange fnExactCallsTextSpec)) fnExactCallsTextCard

/-- THE TIED CARD OF 'laws.FnExactLettersText'. -/
def fnExactLettersTextCard : Claim7 := { stood := { row := fnExactLettersTextRow, standIns := [], harness := (true, "31ada1d8fd6ec82e7ae7aee26f2c024e46733c9a388c8a29a1f485ffd9a2c6ba"), looks := false }, kinds := [], alts := [], laidByText := true, laidKinds := [.data, .data, .data], laidTests := true, laidLooks := .later }
def FnExactLettersTextCardSaid : Prop := Claim7.holds Tryd.pinned (.plain (OpenSpec.ofChange fnExactLettersTextSpec)) fnExactLettersTextCard

/-- THE SECOND FORM's CARD OF 'laws.FnExactCallsText'. -/
def fnExactCallsTextUptoCard : Claim7 := { stood := { row := fnExactCallsTextUptoRow, standIns := [], harness := (true, "31ada1d8fd6ec82e7ae7aee26f2c024e46733c9a388c8a29a1f485ffd9a2c6ba"), looks := false }, kinds := [], alts := [], laidByText := true, laidKinds := [.data, .data, .data], laidTests := true, laidLooks := .later }
def FnExactCallsTextUptoCardSaid : Prop := Claim7.holds Tryd.pinned (.plain (OpenSpec.upto fnExactCallsTextSpec)) fnExactCallsTextUptoCard

/-- THE SECOND FORM's CARD OF 'laws.FnExactLettersText'. -/
def fnExactLettersTextUptoCard : Claim7 := { stood := { row := fnExactLettersTextUptoRow, standIns := [], harness := (true, "31ada1d8fd6ec82e7ae7aee26f2c024e46733c9a388c8a29a1f485ffd9a2c6ba"), looks := false }, kinds := [], alts := [], laidByText := true, laidKinds := [.data, .data, .data], laidTests := true, laidLooks := .later }
def FnExactLettersTextUptoCardSaid : Prop := Claim7.holds Tryd.pinned (.plain (OpenSpec.upto fnExactLettersTextSpec)) fnExactLettersTextUptoCard
end Rows
end Go.Proofs.YtenbpmdieoddbaaDoor
