/-
  DERIVED. GIVEN WITH THE SEED: THE CARDS: each row of YtaangjidkkpogaaDoorRows.lean that lists a variable, with what it lists TIED to the program's text (the seventh form; the later family's looks); each row that meets fmt, with fmt's text TOLD by the authors' own Lean function (tested against real Go, not proved from fmt's source: count such statements apart). THE CARD IS WHAT COUNTS. Prove the row's statement (the work); the ties are given (YtaangjidkkpogaaDoorTie.lean); close each card by the builder's one call (the guide's Derived/Test/ToyasCard.lean, 'card_holds'). Laid BY PROGRAM, IN A SANDBOX (cutbox-door.mjs). By AI agents, Wed Nov 11 2026. No macro, syntax, notation, axiom, sorry.
-/
import Derived.Test.YtaangjidkkpogaaDoorRows
import GoSem.ClaimSeven
namespace Go.Proofs.YtaangjidkkpogaaDoor
namespace Rows

/-- THE TIED CARD OF 'laws.FnExactFitsClaims'. -/
def fnExactFitsClaimsCard : Claim7 := { stood := { row := fnExactFitsClaimsRow, standIns := [], harness := (true, "c0eecfd80adee4790f9617717ffbfc8951d19ccc9d89045777b87225f87a1b90"), looks := false }, kinds := [], alts := [], laidByText := true, laidKinds := [.data, .pinned], laidTests := true, laidLooks := .later }
def FnExactFitsClaimsCardSaid : Prop := Claim7.holds Tryd.pinned (.plain (OpenSpec.ofChange fnExactFitsClaimsSpec)) fnExactFitsClaimsCard

/-- THE TIED CARD OF 'laws.FnExactClaimsOfCast'. -/
def fnExactClaimsOfCastCard : Claim7 := { stood := { row := fnExactClaimsOfCastRow, standIns := [], harness := (true, "c0eecfd80adee4790f9617717ffbfc8951d19ccc9d89045777b87225f87a1b90"), looks := false }, kinds := [], alts := [], laidByText := true, laidKinds := [.data, .pinned], laidTests := true, laidLooks := .later }
def FnExactClaimsOfCastCardSaid : Prop := Claim7.holds Tryd.pinned (.plain (OpenSpec.ofChange fnExactClaimsOfCastSpec)) fnExactClaimsOfCastCard

/-- THE TIED CARD OF 'laws.FnExactPassedOn'. -/
def fnExactPassedOnCard : Claim7 := { stood := { row := fnExactPassedOnRow, standIns := [], harness := (true, "c0eecfd80adee4790f9617717ffbfc8951d19ccc9d89045777b87225f87a1b90"), looks := false }, kinds := [], alts := [], laidByText := true, laidKinds := [.data, .pinned], laidTests := true, laidLooks := .later }
def FnExactPassedOnCardSaid : Prop := Claim7.holds Tryd.pinned (.plain (OpenSpec.ofChange fnExactPassedOnSpec)) fnExactPassedOnCard

/-- THE TIED CARD OF 'laws.FnExactPathsHeard'. -/
def fnExactPathsHeardCard : Claim7 := { stood := { row := fnExactPathsHeardRow, standIns := [], harness := (true, "c0eecfd80adee4790f9617717ffbfc8951d19ccc9d89045777b87225f87a1b90"), looks := false }, kinds := [], alts := [], laidByText := true, laidKinds := [.data, .pinned], laidTests := true, laidLooks := .later }
def FnExactPathsHeardCardSaid : Prop := Claim7.holds Tryd.pinned (.plain (OpenSpec.ofChange fnExactPathsHeardSpec)) fnExactPathsHeardCard

/-- THE TIED CARD OF 'laws.FnExactAskAbout'. -/
def fnExactAskAboutCard : Claim7 := { stood := { row := fnExactAskAboutRow, standIns := [], harness := (true, "c0eecfd80adee4790f9617717ffbfc8951d19ccc9d89045777b87225f87a1b90"), looks := false }, kinds := [], alts := [], laidByText := true, laidKinds := [.data, .pinned], laidTests := true, laidLooks := .later }
def FnExactAskAboutCardSaid : Prop := Claim7.holds Tryd.pinned (.plain (OpenSpec.ofChange fnExactAskAboutSpec)) fnExactAskAboutCard

/-- THE SECOND FORM's CARD OF 'laws.FnExactFitsClaims'. -/
def fnExactFitsClaimsUptoCard : Claim7 := { stood := { row := fnExactFitsClaimsUptoRow, standIns := [], harness := (true, "c0eecfd80adee4790f9617717ffbfc8951d19ccc9d89045777b87225f87a1b90"), looks := false }, kinds := [], alts := [], laidByText := true, laidKinds := [.data, .pinned], laidTests := true, laidLooks := .later }
def FnExactFitsClaimsUptoCardSaid : Prop := Claim7.holds Tryd.pinned (.plain (OpenSpec.upto fnExactFitsClaimsSpec)) fnExactFitsClaimsUptoCard

/-- THE SECOND FORM's CARD OF 'laws.FnExactClaimsOfCast'. -/
def fnExactClaimsOfCastUptoCard : Claim7 := { stood := { row := fnExactClaimsOfCastUptoRow, standIns := [], harness := (true, "c0eecfd80adee4790f9617717ffbfc8951d19ccc9d89045777b87225f87a1b90"), looks := false }, kinds := [], alts := [], laidByText := true, laidKinds := [.data, .pinned], laidTests := true, laidLooks := .later }
def FnExactClaimsOfCastUptoCardSaid : Prop := Claim7.holds Tryd.pinned (.plain (OpenSpec.upto fnExactClaimsOfCastSpec)) fnExactClaimsOfCastUptoCard

/-- THE SECOND FORM's CARD OF 'laws.FnExactPassedOn'. -/
def fnExactPassedOnUptoCard : Claim7 := { stood := { row := fnExactPassedOnUptoRow, standIns := [], harness := (true, "c0eecfd80adee4790f9617717ffbfc8951d19ccc9d89045777b87225f87a1b90"), looks := false }, kinds := [], alts := [], laidByText := true, laidKinds := [.data, .pinned], laidTests := true, laidLooks := .later }
def FnExactPassedOnUptoCardSaid : Prop := Claim7.holds Tryd.pinned (.plain (OpenSpec.upto fnExactPassedOnSpec)) fnExactPassedOnUptoCard

/-- THE SECOND FORM's CARD OF 'laws.FnExactPathsHeard'. -/
def fnExactPathsHeardUptoCard : Claim7 := { stood := { row := fnExactPathsHeardUptoRow, standIns := [], harness := (true, "c0eecfd80adee4790f9617717ffbfc8951d19ccc9d89045777b87225f87a1b90"), looks := false }, kinds := [], alts := [], laidByText := true, laidKinds := [.data, .pinned], laidTests := true, laidLooks := .later }
def FnExactPathsHeardUptoCardSaid : Prop := Claim7.holds Tryd.pinned (.plain (OpenSpec.upto fnExactPathsHeardSpec)) fnExactPathsHeardUptoCard

/-- THE SECOND FORM's CARD OF 'laws.FnExactAskAbout'. -/
def fnExactAskAboutUptoCard : Claim7 := { stood := { row := fnExactAskAboutUptoRow, standIns := [], harness := (true, "c0eecfd80adee4790f9617717ffbfc8951d19ccc9d89045777b87225f87a1b90"), looks := false }, kinds := [], alts := [], laidByText := true, laidKinds := [.data, .pinned], laidTests := true, laidLooks := .later }
def FnExactAskAboutUptoCardSaid : Prop := Claim7.holds Tryd.pinned (.plain (OpenSpec.upto fnExactAskAboutSpec)) fnExactAskAboutUptoCard
end Rows
end Go.Proofs.YtaangjidkkpogaaDoor
