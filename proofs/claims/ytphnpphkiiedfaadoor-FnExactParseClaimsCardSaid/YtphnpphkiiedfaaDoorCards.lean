/-
  DERIVED. GIVEN WITH THE SEED: THE CARDS: each row of YtphnpphkiiedfaaDoorRows.lean that lists a variable, with what it lists TIED to the program's text (the seventh form; the later family's looks); each row that meets fmt, with fmt's text TOLD by the authors' own Lean function (tested against real Go, not proved from fmt's source: count such statements apart). THE CARD IS WHAT COUNTS. Prove the row's statement (the work); the ties are given (YtphnpphkiiedfaaDoorTie.lean); close each card by the builder's one call (the guide's Derived/Test/ToyasCard.lean, 'card_holds'). Laid BY PROGRAM, IN A SANDBOX (cutbox-door.mjs). By AI agents, Wed Nov 11 2026. No macro, syntax, notation, axiom, sorry.
-/
import Derived.Test.YtphnpphkiiedfaaDoorRows
import GoSem.ClaimSeven
namespace Go.Proofs.YtphnpphkiiedfaaDoor
namespace Rows

/-- THE TIED CARD OF 'laws.FnExactClaimsText'. -/
def fnExactClaimsTextCard : Claim7 := { stood := { row := fnExactClaimsTextRow, standIns := [], harness := (true, "e133b1fb82056e105dc0b64e599f3a3dea60efa6fe6af5a4a66b1a4ab6f33247"), looks := false }, kinds := [], alts := [], laidByText := true, laidKinds := [.data, .data, .data], laidTests := true, laidLooks := .later }
def FnExactClaimsTextCardSaid : Prop := Claim7.holds Tryd.pinned (.plain (OpenSpec.ofChange fnExactClaimsTextSpec)) fnExactClaimsTextCard

/-- THE TIED CARD OF 'laws.FnExactParseClaims'. -/
def fnExactParseClaimsCard : Claim7 := { stood := { row := fnExactParseClaimsRow, standIns := [], harness := (true, "e133b1fb82056e105dc0b64e599f3a3dea60efa6fe6af5a4a66b1a4ab6f33247"), looks := false }, kinds := [], alts := [], laidByText := true, laidKinds := [.data, .pinned], laidTests := true, laidLooks := .later }
def FnExactParseClaimsCardSaid : Prop := Claim7.holds Tryd.pinned (.plain (OpenSpec.ofChange fnExactParseClaimsSpec)) fnExactParseClaimsCard

/-- THE SECOND FORM's CARD OF 'laws.FnExactClaimsText'. -/
def fnExactClaimsTextUptoCard : Claim7 := { stood := { row := fnExactClaimsTextUptoRow, standIns := [], harness := (true, "e133b1fb82056e105dc0b64e599f3a3dea60efa6fe6af5a4a66b1a4ab6f33247"), looks := false }, kinds := [], alts := [], laidByText := true, laidKinds := [.data, .data, .data], laidTests := true, laidLooks := .later }
def FnExactClaimsTextUptoCardSaid : Prop := Claim7.holds Tryd.pinned (.plain (OpenSpec.upto fnExactClaimsTextSpec)) fnExactClaimsTextUptoCard

/-- THE SECOND FORM's CARD OF 'laws.FnExactParseClaims'. -/
def fnExactParseClaimsUptoCard : Claim7 := { stood := { row := fnExactParseClaimsUptoRow, standIns := [], harness := (true, "e133b1fb82056e105dc0b64e599f3a3dea60efa6fe6af5a4a66b1a4ab6f33247"), looks := false }, kinds := [], alts := [], laidByText := true, laidKinds := [.data, .pinned], laidTests := true, laidLooks := .later }
def FnExactParseClaimsUptoCardSaid : Prop := Claim7.holds Tryd.pinned (.plain (OpenSpec.upto fnExactParseClaimsSpec)) fnExactParseClaimsUptoCard
end Rows
end Go.Proofs.YtphnpphkiiedfaaDoor
