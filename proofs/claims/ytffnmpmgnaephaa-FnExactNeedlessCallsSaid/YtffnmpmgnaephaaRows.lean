/-
  No cell of these rows narrows 'for every input' (looked for: loops, veiled, ifaces, maps, wideKeys, modest, calm, conditions, laid).
  DERIVED. THE GIVEN ROWS OF THIS SEAT. 9 by the template 'for every input the law returns true; each argument reads behind the call as it read before'; 0 by the template 'total and deterministic' (their statements: YtffnmpmgnaephaaTotals.lean).
  GIVEN WITH THE SEED: the statements are not yours to turn. If you find one false, say at which input.
  Laid BY PROGRAM, IN A SANDBOX (cutbox-rows.mjs): the forced cells as the released guide's own fill.sh prints them over the translation 9c5217db8feb44e0… (all of the seat's roots in one cut). By AI agents, Wed Nov 11 2026. No macro, syntax, notation, axiom, sorry.
-/
import Derived.Test.YtffnmpmgnaephaaChecked
import GoSem.Claim
import GoSem.ClaimJoined
import GoSem.ClaimMapViews
import Derived.JoinedTies
import Derived.KernelRfl
namespace Go.Proofs.Ytffnmpmgnaephaa
/- THE CELL 'sum', in the pinned program and in every row, IS THE sha256 OF THE DUMP (.gsa) THAT YtffnmpmgnaephaaProg.lean LOADS. Nothing in Lean hashes anything: it is a label: what it is worth is what the hold of that sum in a sandbox is worth. -/
noncomputable def Try.pinned : Pinned := { name := "ytffnmpmgnaephaa", sum := "9c5217db8feb44e01c1e59687eed334ecec6a720fefb04d4fce3ece6141fe430", checked := Try.checked }
namespace Rows
def none {H : Type} : Left H := { results := [], args := [] }

/-- 'laws.FnExactKnownAfter': WHATEVER THE INPUT: true; the input reads as it did. -/
def fnExactKnownAfterSpec : ChangeSpec := { name := "fnExactKnownAfter", fn := fun _ => fun
  | [d1, d2] => { results := [.lit (.bool true)], args := [d1, d2] }
  | _ => none }
def fnExactKnownAfterRow : OpenClaim := { program := "ytffnmpmgnaephaa", sum := "9c5217db8feb44e01c1e59687eed334ecec6a720fefb04d4fce3ece6141fe430", func := "loop.example/g01316/laws.FnExactKnownAfter", spec := "fnExactKnownAfter", apart := false }
def FnExactKnownAfterSaid : Prop := fnExactKnownAfterRow.holds Try.pinned (OpenSpec.ofChange fnExactKnownAfterSpec)

/-- ITS FALSE NEIGHBOUR: 'it returns false'. Refute it at one input. -/
def fnExactKnownAfterWrong : ChangeSpec := { name := "fnExactKnownAfter", fn := fun _ => fun
  | [d1, d2] => { results := [.lit (.bool false)], args := [d1, d2] }
  | _ => none }
def FnExactKnownAfterWrongFalsely : Prop := fnExactKnownAfterRow.holds Try.pinned (OpenSpec.ofChange fnExactKnownAfterWrong)

/-- 'laws.FnExactAllKnow': WHATEVER THE INPUT: true; the input reads as it did. -/
def fnExactAllKnowSpec : ChangeSpec := { name := "fnExactAllKnow", fn := fun _ => fun
  | [d1, d2] => { results := [.lit (.bool true)], args := [d1, d2] }
  | _ => none }
def fnExactAllKnowRow : OpenClaim := { program := "ytffnmpmgnaephaa", sum := "9c5217db8feb44e01c1e59687eed334ecec6a720fefb04d4fce3ece6141fe430", func := "loop.example/g01316/laws.FnExactAllKnow", spec := "fnExactAllKnow", apart := false }
def FnExactAllKnowSaid : Prop := fnExactAllKnowRow.holds Try.pinned (OpenSpec.ofChange fnExactAllKnowSpec)

/-- ITS FALSE NEIGHBOUR: 'it returns false'. Refute it at one input. -/
def fnExactAllKnowWrong : ChangeSpec := { name := "fnExactAllKnow", fn := fun _ => fun
  | [d1, d2] => { results := [.lit (.bool false)], args := [d1, d2] }
  | _ => none }
def FnExactAllKnowWrongFalsely : Prop := fnExactAllKnowRow.holds Try.pinned (OpenSpec.ofChange fnExactAllKnowWrong)

/-- 'laws.FnExactCountKnown': WHATEVER THE INPUT: true; the input reads as it did. -/
def fnExactCountKnownSpec : ChangeSpec := { name := "fnExactCountKnown", fn := fun _ => fun
  | [d1, d2] => { results := [.lit (.bool true)], args := [d1, d2] }
  | _ => none }
def fnExactCountKnownRow : OpenClaim := { program := "ytffnmpmgnaephaa", sum := "9c5217db8feb44e01c1e59687eed334ecec6a720fefb04d4fce3ece6141fe430", func := "loop.example/g01316/laws.FnExactCountKnown", spec := "fnExactCountKnown", apart := false }
def FnExactCountKnownSaid : Prop := fnExactCountKnownRow.holds Try.pinned (OpenSpec.ofChange fnExactCountKnownSpec)

/-- ITS FALSE NEIGHBOUR: 'it returns false'. Refute it at one input. -/
def fnExactCountKnownWrong : ChangeSpec := { name := "fnExactCountKnown", fn := fun _ => fun
  | [d1, d2] => { results := [.lit (.bool false)], args := [d1, d2] }
  | _ => none }
def FnExactCountKnownWrongFalsely : Prop := fnExactCountKnownRow.holds Try.pinned (OpenSpec.ofChange fnExactCountKnownWrong)

/-- 'laws.FnExactWhoKnows': WHATEVER THE INPUT: true; the input reads as it did. -/
def fnExactWhoKnowsSpec : ChangeSpec := { name := "fnExactWhoKnows", fn := fun _ => fun
  | [d1, d2, d3] => { results := [.lit (.bool true)], args := [d1, d2, d3] }
  | _ => none }
def fnExactWhoKnowsRow : OpenClaim := { program := "ytffnmpmgnaephaa", sum := "9c5217db8feb44e01c1e59687eed334ecec6a720fefb04d4fce3ece6141fe430", func := "loop.example/g01316/laws.FnExactWhoKnows", spec := "fnExactWhoKnows", apart := false }
def FnExactWhoKnowsSaid : Prop := fnExactWhoKnowsRow.holds Try.pinned (OpenSpec.ofChange fnExactWhoKnowsSpec)

/-- ITS FALSE NEIGHBOUR: 'it returns false'. Refute it at one input. -/
def fnExactWhoKnowsWrong : ChangeSpec := { name := "fnExactWhoKnows", fn := fun _ => fun
  | [d1, d2, d3] => { results := [.lit (.bool false)], args := [d1, d2, d3] }
  | _ => none }
def FnExactWhoKnowsWrongFalsely : Prop := fnExactWhoKnowsRow.holds Try.pinned (OpenSpec.ofChange fnExactWhoKnowsWrong)

/-- 'laws.FnExactCallsNeeded': WHATEVER THE INPUT: true; the input reads as it did. -/
def fnExactCallsNeededSpec : ChangeSpec := { name := "fnExactCallsNeeded", fn := fun _ => fun
  | [d1, d2] => { results := [.lit (.bool true)], args := [d1, d2] }
  | _ => none }
def fnExactCallsNeededRow : OpenClaim := { program := "ytffnmpmgnaephaa", sum := "9c5217db8feb44e01c1e59687eed334ecec6a720fefb04d4fce3ece6141fe430", func := "loop.example/g01316/laws.FnExactCallsNeeded", spec := "fnExactCallsNeeded", apart := false }
def FnExactCallsNeededSaid : Prop := fnExactCallsNeededRow.holds Try.pinned (OpenSpec.ofChange fnExactCallsNeededSpec)

/-- ITS FALSE NEIGHBOUR: 'it returns false'. Refute it at one input. -/
def fnExactCallsNeededWrong : ChangeSpec := { name := "fnExactCallsNeeded", fn := fun _ => fun
  | [d1, d2] => { results := [.lit (.bool false)], args := [d1, d2] }
  | _ => none }
def FnExactCallsNeededWrongFalsely : Prop := fnExactCallsNeededRow.holds Try.pinned (OpenSpec.ofChange fnExactCallsNeededWrong)

/-- 'laws.FnExactLearnedIn': WHATEVER THE INPUT: true; the input reads as it did. -/
def fnExactLearnedInSpec : ChangeSpec := { name := "fnExactLearnedIn", fn := fun _ => fun
  | [d1, d2, d3] => { results := [.lit (.bool true)], args := [d1, d2, d3] }
  | _ => none }
def fnExactLearnedInRow : OpenClaim := { program := "ytffnmpmgnaephaa", sum := "9c5217db8feb44e01c1e59687eed334ecec6a720fefb04d4fce3ece6141fe430", func := "loop.example/g01316/laws.FnExactLearnedIn", spec := "fnExactLearnedIn", apart := false }
def FnExactLearnedInSaid : Prop := fnExactLearnedInRow.holds Try.pinned (OpenSpec.ofChange fnExactLearnedInSpec)

/-- ITS FALSE NEIGHBOUR: 'it returns false'. Refute it at one input. -/
def fnExactLearnedInWrong : ChangeSpec := { name := "fnExactLearnedIn", fn := fun _ => fun
  | [d1, d2, d3] => { results := [.lit (.bool false)], args := [d1, d2, d3] }
  | _ => none }
def FnExactLearnedInWrongFalsely : Prop := fnExactLearnedInRow.holds Try.pinned (OpenSpec.ofChange fnExactLearnedInWrong)

/-- 'laws.FnExactIdleCalls': WHATEVER THE INPUT: true; the input reads as it did. -/
def fnExactIdleCallsSpec : ChangeSpec := { name := "fnExactIdleCalls", fn := fun _ => fun
  | [d1, d2] => { results := [.lit (.bool true)], args := [d1, d2] }
  | _ => none }
def fnExactIdleCallsRow : OpenClaim := { program := "ytffnmpmgnaephaa", sum := "9c5217db8feb44e01c1e59687eed334ecec6a720fefb04d4fce3ece6141fe430", func := "loop.example/g01316/laws.FnExactIdleCalls", spec := "fnExactIdleCalls", unfollowed := true, recurses := true, apart := false }
def FnExactIdleCallsSaid : Prop := fnExactIdleCallsRow.holds Try.pinned (OpenSpec.ofChange fnExactIdleCallsSpec)

/-- ITS FALSE NEIGHBOUR: 'it returns false'. Refute it at one input. -/
def fnExactIdleCallsWrong : ChangeSpec := { name := "fnExactIdleCalls", fn := fun _ => fun
  | [d1, d2] => { results := [.lit (.bool false)], args := [d1, d2] }
  | _ => none }
def FnExactIdleCallsWrongFalsely : Prop := fnExactIdleCallsRow.holds Try.pinned (OpenSpec.ofChange fnExactIdleCallsWrong)

/-- 'laws.FnExactNeedlessCalls': WHATEVER THE INPUT: true; the input reads as it did. -/
def fnExactNeedlessCallsSpec : ChangeSpec := { name := "fnExactNeedlessCalls", fn := fun _ => fun
  | [d1, d2] => { results := [.lit (.bool true)], args := [d1, d2] }
  | _ => none }
def fnExactNeedlessCallsRow : OpenClaim := { program := "ytffnmpmgnaephaa", sum := "9c5217db8feb44e01c1e59687eed334ecec6a720fefb04d4fce3ece6141fe430", func := "loop.example/g01316/laws.FnExactNeedlessCalls", spec := "fnExactNeedlessCalls", apart := false }
def FnExactNeedlessCallsSaid : Prop := fnExactNeedlessCallsRow.holds Try.pinned (OpenSpec.ofChange fnExactNeedlessCallsSpec)

/-- ITS FALSE NEIGHBOUR: 'it returns false'. Refute it at one input. -/
def fnExactNeedlessCallsWrong : ChangeSpec := { name := "fnExactNeedlessCalls", fn := fun _ => fun
  | [d1, d2] => { results := [.lit (.bool false)], args := [d1, d2] }
  | _ => none }
def FnExactNeedlessCallsWrongFalsely : Prop := fnExactNeedlessCallsRow.holds Try.pinned (OpenSpec.ofChange fnExactNeedlessCallsWrong)

/-- 'laws.FnExactCallsOf': WHATEVER THE INPUT: true; the input reads as it did. -/
def fnExactCallsOfSpec : ChangeSpec := { name := "fnExactCallsOf", fn := fun _ => fun
  | [d1, d2, d3] => { results := [.lit (.bool true)], args := [d1, d2, d3] }
  | _ => none }
def fnExactCallsOfRow : OpenClaim := { program := "ytffnmpmgnaephaa", sum := "9c5217db8feb44e01c1e59687eed334ecec6a720fefb04d4fce3ece6141fe430", func := "loop.example/g01316/laws.FnExactCallsOf", spec := "fnExactCallsOf", unfollowed := true, recurses := true, apart := false }
def FnExactCallsOfSaid : Prop := fnExactCallsOfRow.holds Try.pinned (OpenSpec.ofChange fnExactCallsOfSpec)

/-- ITS FALSE NEIGHBOUR: 'it returns false'. Refute it at one input. -/
def fnExactCallsOfWrong : ChangeSpec := { name := "fnExactCallsOf", fn := fun _ => fun
  | [d1, d2, d3] => { results := [.lit (.bool false)], args := [d1, d2, d3] }
  | _ => none }
def FnExactCallsOfWrongFalsely : Prop := fnExactCallsOfRow.holds Try.pinned (OpenSpec.ofChange fnExactCallsOfWrong)

/- THE SECOND FORM. 'bulk': how many values and letters a reading holds, each counted each time it is reached (what is shared counts as often as it is met; a slice's spare places count too). A statement '..UptoSaid' is the law's where the arguments, and the package variables that the reading takes, are together of bulk at most 1048576: NARROWER than '..Said'. Prove '..Said' where nothing that the law and all that it calls make is longer than what came in: it says more and counts as full. Else prove '..UptoSaid'. A law counts once. -/
mutual
def uptoBulk {H : Type} : DataW H → Nat
  | .lit (.string bytes) => bytes.length + 1
  | .lit _ => 1
  | .nil => 1
  | .ptr d => uptoBulk d + 1
  | .slice elems spare => uptoBulkAll elems + uptoBulkAll spare + 1
  | .agg parts => uptoBulkAll parts + 1
  | .iface _ d => uptoBulk d + 1
  | .map entries => uptoBulkEntries entries + 1
  | .held _ => 1
def uptoBulkAll {H : Type} : List (DataW H) → Nat
  | [] => 0
  | d :: r => uptoBulk d + uptoBulkAll r
def uptoBulkEntries {H : Type} : List (Lit × DataW H) → Nat
  | [] => 0
  | x :: r => uptoBulkEntry x + uptoBulkEntries r
def uptoBulkEntry {H : Type} : Lit × DataW H → Nat
  | (.string bytes, d) => bytes.length + uptoBulk d + 1
  | (_, d) => uptoBulk d + 1
 end
def uptoSmall : (H : Type) → List (DataW H) → Bool := fun _ ds => decide (uptoBulkAll ds ≤ 1048576)
def OpenSpec.upto (s : _root_.Go.ChangeSpec) : _root_.Go.OpenSpec := { _root_.Go.OpenSpec.ofChange s with cond := some uptoSmall }

/-- 'laws.FnExactKnownAfter', WHERE WHAT IT READS IS OF BULK AT MOST 1048576: true; the input reads as it did. -/
def fnExactKnownAfterUptoRow : OpenClaim := { program := "ytffnmpmgnaephaa", sum := "9c5217db8feb44e01c1e59687eed334ecec6a720fefb04d4fce3ece6141fe430", func := "loop.example/g01316/laws.FnExactKnownAfter", spec := "fnExactKnownAfter", apart := false, narrowed := true }
def FnExactKnownAfterUptoSaid : Prop := fnExactKnownAfterUptoRow.holds Try.pinned (OpenSpec.upto fnExactKnownAfterSpec)

/-- 'laws.FnExactAllKnow', WHERE WHAT IT READS IS OF BULK AT MOST 1048576: true; the input reads as it did. -/
def fnExactAllKnowUptoRow : OpenClaim := { program := "ytffnmpmgnaephaa", sum := "9c5217db8feb44e01c1e59687eed334ecec6a720fefb04d4fce3ece6141fe430", func := "loop.example/g01316/laws.FnExactAllKnow", spec := "fnExactAllKnow", apart := false, narrowed := true }
def FnExactAllKnowUptoSaid : Prop := fnExactAllKnowUptoRow.holds Try.pinned (OpenSpec.upto fnExactAllKnowSpec)

/-- 'laws.FnExactCountKnown', WHERE WHAT IT READS IS OF BULK AT MOST 1048576: true; the input reads as it did. -/
def fnExactCountKnownUptoRow : OpenClaim := { program := "ytffnmpmgnaephaa", sum := "9c5217db8feb44e01c1e59687eed334ecec6a720fefb04d4fce3ece6141fe430", func := "loop.example/g01316/laws.FnExactCountKnown", spec := "fnExactCountKnown", apart := false, narrowed := true }
def FnExactCountKnownUptoSaid : Prop := fnExactCountKnownUptoRow.holds Try.pinned (OpenSpec.upto fnExactCountKnownSpec)

/-- 'laws.FnExactWhoKnows', WHERE WHAT IT READS IS OF BULK AT MOST 1048576: true; the input reads as it did. -/
def fnExactWhoKnowsUptoRow : OpenClaim := { program := "ytffnmpmgnaephaa", sum := "9c5217db8feb44e01c1e59687eed334ecec6a720fefb04d4fce3ece6141fe430", func := "loop.example/g01316/laws.FnExactWhoKnows", spec := "fnExactWhoKnows", apart := false, narrowed := true }
def FnExactWhoKnowsUptoSaid : Prop := fnExactWhoKnowsUptoRow.holds Try.pinned (OpenSpec.upto fnExactWhoKnowsSpec)

/-- 'laws.FnExactCallsNeeded', WHERE WHAT IT READS IS OF BULK AT MOST 1048576: true; the input reads as it did. -/
def fnExactCallsNeededUptoRow : OpenClaim := { program := "ytffnmpmgnaephaa", sum := "9c5217db8feb44e01c1e59687eed334ecec6a720fefb04d4fce3ece6141fe430", func := "loop.example/g01316/laws.FnExactCallsNeeded", spec := "fnExactCallsNeeded", apart := false, narrowed := true }
def FnExactCallsNeededUptoSaid : Prop := fnExactCallsNeededUptoRow.holds Try.pinned (OpenSpec.upto fnExactCallsNeededSpec)

/-- 'laws.FnExactLearnedIn', WHERE WHAT IT READS IS OF BULK AT MOST 1048576: true; the input reads as it did. -/
def fnExactLearnedInUptoRow : OpenClaim := { program := "ytffnmpmgnaephaa", sum := "9c5217db8feb44e01c1e59687eed334ecec6a720fefb04d4fce3ece6141fe430", func := "loop.example/g01316/laws.FnExactLearnedIn", spec := "fnExactLearnedIn", apart := false, narrowed := true }
def FnExactLearnedInUptoSaid : Prop := fnExactLearnedInUptoRow.holds Try.pinned (OpenSpec.upto fnExactLearnedInSpec)

/-- 'laws.FnExactIdleCalls', WHERE WHAT IT READS IS OF BULK AT MOST 1048576: true; the input reads as it did. -/
def fnExactIdleCallsUptoRow : OpenClaim := { program := "ytffnmpmgnaephaa", sum := "9c5217db8feb44e01c1e59687eed334ecec6a720fefb04d4fce3ece6141fe430", func := "loop.example/g01316/laws.FnExactIdleCalls", spec := "fnExactIdleCalls", unfollowed := true, recurses := true, apart := false, narrowed := true }
def FnExactIdleCallsUptoSaid : Prop := fnExactIdleCallsUptoRow.holds Try.pinned (OpenSpec.upto fnExactIdleCallsSpec)

/-- 'laws.FnExactNeedlessCalls', WHERE WHAT IT READS IS OF BULK AT MOST 1048576: true; the input reads as it did. -/
def fnExactNeedlessCallsUptoRow : OpenClaim := { program := "ytffnmpmgnaephaa", sum := "9c5217db8feb44e01c1e59687eed334ecec6a720fefb04d4fce3ece6141fe430", func := "loop.example/g01316/laws.FnExactNeedlessCalls", spec := "fnExactNeedlessCalls", apart := false, narrowed := true }
def FnExactNeedlessCallsUptoSaid : Prop := fnExactNeedlessCallsUptoRow.holds Try.pinned (OpenSpec.upto fnExactNeedlessCallsSpec)

/-- 'laws.FnExactCallsOf', WHERE WHAT IT READS IS OF BULK AT MOST 1048576: true; the input reads as it did. -/
def fnExactCallsOfUptoRow : OpenClaim := { program := "ytffnmpmgnaephaa", sum := "9c5217db8feb44e01c1e59687eed334ecec6a720fefb04d4fce3ece6141fe430", func := "loop.example/g01316/laws.FnExactCallsOf", spec := "fnExactCallsOf", unfollowed := true, recurses := true, apart := false, narrowed := true }
def FnExactCallsOfUptoSaid : Prop := fnExactCallsOfUptoRow.holds Try.pinned (OpenSpec.upto fnExactCallsOfSpec)

end Rows
end Go.Proofs.Ytffnmpmgnaephaa
