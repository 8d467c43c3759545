/-
  DERIVED. GIVEN WITH THE SEED: THE CARDS: each row of YtibjapfaljeclaaDoorRows.lean that lists a variable, with what it lists TIED to the program's text (the seventh form; the later family's looks); each row that meets fmt, with fmt's text TOLD by the authors' own Lean function (tested against real Go, not proved from fmt's source: count such statements apart). THE CARD IS WHAT COUNTS. Prove the row's statement (the work); the ties are given (YtibjapfaljeclaaDoorTie.lean); close each card by the builder's one call (the guide's Derived/Test/ToyasCard.lean, 'card_holds'). Laid BY PROGRAM, IN A SANDBOX (cutbox-door.mjs). By AI agents, Wed Nov 11 2026. No macro, syntax, notation, axiom, sorry.
-/
import Derived.Test.YtibjapfaljeclaaDoorRows
import GoSem.ClaimSeven
namespace Go.Proofs.YtibjapfaljeclaaDoor
namespace Rows

/-- THE TIED CARD OF 'laws.FnExactTreePlan'. -/
def fnExactTreePlanCard : Claim7 := { stood := { row := fnExactTreePlanRow, standIns := [], harness := (true, "dc81dc0bbfd5916f36373d27fe6008a91d5dbdf094b4a479957bec99f02ff09c"), looks := false }, kinds := [], alts := [], laidByText := true, laidKinds := [.data], laidTests := true, laidLooks := .later }
def FnExactTreePlanCardSaid : Prop := Claim7.holds Tryd.pinned (.plain (OpenSpec.ofChange fnExactTreePlanSpec)) fnExactTreePlanCard

/-- THE TIED CARD OF 'laws.FnExactSquarePlan'. -/
def fnExactSquarePlanCard : Claim7 := { stood := { row := fnExactSquarePlanRow, standIns := [], harness := (true, "dc81dc0bbfd5916f36373d27fe6008a91d5dbdf094b4a479957bec99f02ff09c"), looks := false }, kinds := [], alts := [], laidByText := true, laidKinds := [.data], laidTests := true, laidLooks := .later }
def FnExactSquarePlanCardSaid : Prop := Claim7.holds Tryd.pinned (.plain (OpenSpec.ofChange fnExactSquarePlanSpec)) fnExactSquarePlanCard

/-- THE SECOND FORM's CARD OF 'laws.FnExactTreePlan'. -/
def fnExactTreePlanUptoCard : Claim7 := { stood := { row := fnExactTreePlanUptoRow, standIns := [], harness := (true, "dc81dc0bbfd5916f36373d27fe6008a91d5dbdf094b4a479957bec99f02ff09c"), looks := false }, kinds := [], alts := [], laidByText := true, laidKinds := [.data], laidTests := true, laidLooks := .later }
def FnExactTreePlanUptoCardSaid : Prop := Claim7.holds Tryd.pinned (.plain (OpenSpec.upto fnExactTreePlanSpec)) fnExactTreePlanUptoCard

/-- THE SECOND FORM's CARD OF 'laws.FnExactSquarePlan'. -/
def fnExactSquarePlanUptoCard : Claim7 := { stood := { row := fnExactSquarePlanUptoRow, standIns := [], harness := (true, "dc81dc0bbfd5916f36373d27fe6008a91d5dbdf094b4a479957bec99f02ff09c"), looks := false }, kinds := [], alts := [], laidByText := true, laidKinds := [.data], laidTests := true, laidLooks := .later }
def FnExactSquarePlanUptoCardSaid : Prop := Claim7.holds Tryd.pinned (.plain (OpenSpec.upto fnExactSquarePlanSpec)) fnExactSquarePlanUptoCard
end Rows
end Go.Proofs.YtibjapfaljeclaaDoor
