/-
  No cell of these rows narrows 'for every input' (looked for: loops, veiled, ifaces, maps, wideKeys, modest, calm, conditions, laid).
  DERIVED. THE GIVEN ROWS OF THIS SEAT. 9 by the template 'for every input the law returns true; each argument reads behind the call as it read before'; 0 by the template 'total and deterministic' (their statements: YtbddhjpofijmpaaTotals.lean).
  GIVEN WITH THE SEED: the statements are not yours to turn. If you find one false, say at which input.
  Laid BY PROGRAM, IN A SANDBOX (cutbox-rows.mjs): the forced cells as the released guide's own fill.sh prints them over the translation 2bfe1c484cae48b1… (all of the seat's roots in one cut). By AI agents, Wed Nov 11 2026. No macro, syntax, notation, axiom, sorry.
-/
import Derived.Test.YtbddhjpofijmpaaChecked
import GoSem.Claim
import GoSem.ClaimJoined
import GoSem.ClaimMapViews
import Derived.JoinedTies
import Derived.KernelRfl
namespace Go.Proofs.Ytbddhjpofijmpaa
/- THE CELL 'sum', in the pinned program and in every row, IS THE sha256 OF THE DUMP (.gsa) THAT YtbddhjpofijmpaaProg.lean LOADS. Nothing in Lean hashes anything: it is a label: what it is worth is what the hold of that sum in a sandbox is worth. -/
noncomputable def Try.pinned : Pinned := { name := "ytbddhjpofijmpaa", sum := "2bfe1c484cae48b1b20f3766cf8cb96531169a71d64945708f16bc58a7292627", checked := Try.checked }
namespace Rows
def none {H : Type} : Left H := { results := [], args := [] }

/-- 'laws.FnExactArePairs': WHATEVER THE INPUT: true; the input reads as it did. -/
def fnExactArePairsSpec : ChangeSpec := { name := "fnExactArePairs", fn := fun _ => fun
  | [d1, d2] => { results := [.lit (.bool true)], args := [d1, d2] }
  | _ => none }
def fnExactArePairsRow : OpenClaim := { program := "ytbddhjpofijmpaa", sum := "2bfe1c484cae48b1b20f3766cf8cb96531169a71d64945708f16bc58a7292627", func := "loop.example/g01316/laws.FnExactArePairs", spec := "fnExactArePairs", apart := false }
def FnExactArePairsSaid : Prop := fnExactArePairsRow.holds Try.pinned (OpenSpec.ofChange fnExactArePairsSpec)

/-- ITS FALSE NEIGHBOUR: 'it returns false'. Refute it at one input. -/
def fnExactArePairsWrong : ChangeSpec := { name := "fnExactArePairs", fn := fun _ => fun
  | [d1, d2] => { results := [.lit (.bool false)], args := [d1, d2] }
  | _ => none }
def FnExactArePairsWrongFalsely : Prop := fnExactArePairsRow.holds Try.pinned (OpenSpec.ofChange fnExactArePairsWrong)

/-- 'laws.FnExactLineNet': WHATEVER THE INPUT: true; the input reads as it did. -/
def fnExactLineNetSpec : ChangeSpec := { name := "fnExactLineNet", fn := fun _ => fun
  | [d] => { results := [.lit (.bool true)], args := [d] }
  | _ => none }
def fnExactLineNetRow : OpenClaim := { program := "ytbddhjpofijmpaa", sum := "2bfe1c484cae48b1b20f3766cf8cb96531169a71d64945708f16bc58a7292627", func := "loop.example/g01316/laws.FnExactLineNet", spec := "fnExactLineNet", apart := false }
def FnExactLineNetSaid : Prop := fnExactLineNetRow.holds Try.pinned (OpenSpec.ofChange fnExactLineNetSpec)

/-- ITS FALSE NEIGHBOUR: 'it returns false'. Refute it at one input. -/
def fnExactLineNetWrong : ChangeSpec := { name := "fnExactLineNet", fn := fun _ => fun
  | [d] => { results := [.lit (.bool false)], args := [d] }
  | _ => none }
def FnExactLineNetWrongFalsely : Prop := fnExactLineNetRow.holds Try.pinned (OpenSpec.ofChange fnExactLineNetWrong)

/-- 'laws.FnExactCircleNet': WHATEVER THE INPUT: true; the input reads as it did. -/
def fnExactCircleNetSpec : ChangeSpec := { name := "fnExactCircleNet", fn := fun _ => fun
  | [d] => { results := [.lit (.bool true)], args := [d] }
  | _ => none }
def fnExactCircleNetRow : OpenClaim := { program := "ytbddhjpofijmpaa", sum := "2bfe1c484cae48b1b20f3766cf8cb96531169a71d64945708f16bc58a7292627", func := "loop.example/g01316/laws.FnExactCircleNet", spec := "fnExactCircleNet", unfollowed := true, recurses := true, apart := false }
def FnExactCircleNetSaid : Prop := fnExactCircleNetRow.holds Try.pinned (OpenSpec.ofChange fnExactCircleNetSpec)

/-- ITS FALSE NEIGHBOUR: 'it returns false'. Refute it at one input. -/
def fnExactCircleNetWrong : ChangeSpec := { name := "fnExactCircleNet", fn := fun _ => fun
  | [d] => { results := [.lit (.bool false)], args := [d] }
  | _ => none }
def FnExactCircleNetWrongFalsely : Prop := fnExactCircleNetRow.holds Try.pinned (OpenSpec.ofChange fnExactCircleNetWrong)

/-- 'laws.FnExactStarNet': WHATEVER THE INPUT: true; the input reads as it did. -/
def fnExactStarNetSpec : ChangeSpec := { name := "fnExactStarNet", fn := fun _ => fun
  | [d1, d2] => { results := [.lit (.bool true)], args := [d1, d2] }
  | _ => none }
def fnExactStarNetRow : OpenClaim := { program := "ytbddhjpofijmpaa", sum := "2bfe1c484cae48b1b20f3766cf8cb96531169a71d64945708f16bc58a7292627", func := "loop.example/g01316/laws.FnExactStarNet", spec := "fnExactStarNet", apart := false }
def FnExactStarNetSaid : Prop := fnExactStarNetRow.holds Try.pinned (OpenSpec.ofChange fnExactStarNetSpec)

/-- ITS FALSE NEIGHBOUR: 'it returns false'. Refute it at one input. -/
def fnExactStarNetWrong : ChangeSpec := { name := "fnExactStarNet", fn := fun _ => fun
  | [d1, d2] => { results := [.lit (.bool false)], args := [d1, d2] }
  | _ => none }
def FnExactStarNetWrongFalsely : Prop := fnExactStarNetRow.holds Try.pinned (OpenSpec.ofChange fnExactStarNetWrong)

/-- 'laws.FnExactWholeNet': WHATEVER THE INPUT: true; the input reads as it did. -/
def fnExactWholeNetSpec : ChangeSpec := { name := "fnExactWholeNet", fn := fun _ => fun
  | [d] => { results := [.lit (.bool true)], args := [d] }
  | _ => none }
def fnExactWholeNetRow : OpenClaim := { program := "ytbddhjpofijmpaa", sum := "2bfe1c484cae48b1b20f3766cf8cb96531169a71d64945708f16bc58a7292627", func := "loop.example/g01316/laws.FnExactWholeNet", spec := "fnExactWholeNet", apart := false }
def FnExactWholeNetSaid : Prop := fnExactWholeNetRow.holds Try.pinned (OpenSpec.ofChange fnExactWholeNetSpec)

/-- ITS FALSE NEIGHBOUR: 'it returns false'. Refute it at one input. -/
def fnExactWholeNetWrong : ChangeSpec := { name := "fnExactWholeNet", fn := fun _ => fun
  | [d] => { results := [.lit (.bool false)], args := [d] }
  | _ => none }
def FnExactWholeNetWrongFalsely : Prop := fnExactWholeNetRow.holds Try.pinned (OpenSpec.ofChange fnExactWholeNetWrong)

/-- 'laws.FnExactAreCallsInNet': WHATEVER THE INPUT: true; the input reads as it did. -/
def fnExactAreCallsInNetSpec : ChangeSpec := { name := "fnExactAreCallsInNet", fn := fun _ => fun
  | [d1, d2, d3] => { results := [.lit (.bool true)], args := [d1, d2, d3] }
  | _ => none }
def fnExactAreCallsInNetRow : OpenClaim := { program := "ytbddhjpofijmpaa", sum := "2bfe1c484cae48b1b20f3766cf8cb96531169a71d64945708f16bc58a7292627", func := "loop.example/g01316/laws.FnExactAreCallsInNet", spec := "fnExactAreCallsInNet", apart := false }
def FnExactAreCallsInNetSaid : Prop := fnExactAreCallsInNetRow.holds Try.pinned (OpenSpec.ofChange fnExactAreCallsInNetSpec)

/-- ITS FALSE NEIGHBOUR: 'it returns false'. Refute it at one input. -/
def fnExactAreCallsInNetWrong : ChangeSpec := { name := "fnExactAreCallsInNet", fn := fun _ => fun
  | [d1, d2, d3] => { results := [.lit (.bool false)], args := [d1, d2, d3] }
  | _ => none }
def FnExactAreCallsInNetWrongFalsely : Prop := fnExactAreCallsInNetRow.holds Try.pinned (OpenSpec.ofChange fnExactAreCallsInNetWrong)

/-- 'laws.FnExactDegreesOf': WHATEVER THE INPUT: true; the input reads as it did. -/
def fnExactDegreesOfSpec : ChangeSpec := { name := "fnExactDegreesOf", fn := fun _ => fun
  | [d1, d2] => { results := [.lit (.bool true)], args := [d1, d2] }
  | _ => none }
def fnExactDegreesOfRow : OpenClaim := { program := "ytbddhjpofijmpaa", sum := "2bfe1c484cae48b1b20f3766cf8cb96531169a71d64945708f16bc58a7292627", func := "loop.example/g01316/laws.FnExactDegreesOf", spec := "fnExactDegreesOf", apart := false }
def FnExactDegreesOfSaid : Prop := fnExactDegreesOfRow.holds Try.pinned (OpenSpec.ofChange fnExactDegreesOfSpec)

/-- ITS FALSE NEIGHBOUR: 'it returns false'. Refute it at one input. -/
def fnExactDegreesOfWrong : ChangeSpec := { name := "fnExactDegreesOf", fn := fun _ => fun
  | [d1, d2] => { results := [.lit (.bool false)], args := [d1, d2] }
  | _ => none }
def FnExactDegreesOfWrongFalsely : Prop := fnExactDegreesOfRow.holds Try.pinned (OpenSpec.ofChange fnExactDegreesOfWrong)

/-- 'laws.FnExactAddPair': WHATEVER THE INPUT: true; the input reads as it did. -/
def fnExactAddPairSpec : ChangeSpec := { name := "fnExactAddPair", fn := fun _ => fun
  | [d1, d2, d3] => { results := [.lit (.bool true)], args := [d1, d2, d3] }
  | _ => none }
def fnExactAddPairRow : OpenClaim := { program := "ytbddhjpofijmpaa", sum := "2bfe1c484cae48b1b20f3766cf8cb96531169a71d64945708f16bc58a7292627", func := "loop.example/g01316/laws.FnExactAddPair", spec := "fnExactAddPair", unfollowed := true, recurses := true, apart := false }
def FnExactAddPairSaid : Prop := fnExactAddPairRow.holds Try.pinned (OpenSpec.ofChange fnExactAddPairSpec)

/-- ITS FALSE NEIGHBOUR: 'it returns false'. Refute it at one input. -/
def fnExactAddPairWrong : ChangeSpec := { name := "fnExactAddPair", fn := fun _ => fun
  | [d1, d2, d3] => { results := [.lit (.bool false)], args := [d1, d2, d3] }
  | _ => none }
def FnExactAddPairWrongFalsely : Prop := fnExactAddPairRow.holds Try.pinned (OpenSpec.ofChange fnExactAddPairWrong)

/-- 'laws.FnExactDropPair': WHATEVER THE INPUT: true; the input reads as it did. -/
def fnExactDropPairSpec : ChangeSpec := { name := "fnExactDropPair", fn := fun _ => fun
  | [d1, d2, d3] => { results := [.lit (.bool true)], args := [d1, d2, d3] }
  | _ => none }
def fnExactDropPairRow : OpenClaim := { program := "ytbddhjpofijmpaa", sum := "2bfe1c484cae48b1b20f3766cf8cb96531169a71d64945708f16bc58a7292627", func := "loop.example/g01316/laws.FnExactDropPair", spec := "fnExactDropPair", apart := false }
def FnExactDropPairSaid : Prop := fnExactDropPairRow.holds Try.pinned (OpenSpec.ofChange fnExactDropPairSpec)

/-- ITS FALSE NEIGHBOUR: 'it returns false'. Refute it at one input. -/
def fnExactDropPairWrong : ChangeSpec := { name := "fnExactDropPair", fn := fun _ => fun
  | [d1, d2, d3] => { results := [.lit (.bool false)], args := [d1, d2, d3] }
  | _ => none }
def FnExactDropPairWrongFalsely : Prop := fnExactDropPairRow.holds Try.pinned (OpenSpec.ofChange fnExactDropPairWrong)

/- THE SECOND FORM. 'bulk': how many values and letters a reading holds, each counted each time it is reached (what is shared counts as often as it is met; a slice's spare places count too). A statement '..UptoSaid' is the law's where the arguments, and the package variables that the reading takes, are together of bulk at most 1048576: NARROWER than '..Said'. Prove '..Said' where nothing that the law and all that it calls make is longer than what came in: it says more and counts as full. Else prove '..UptoSaid'. A law counts once. -/
mutual
def uptoBulk {H : Type} : DataW H → Nat
  | .lit (.string bytes) => bytes.length + 1
  | .lit _ => 1
  | .nil => 1
  | .ptr d => uptoBulk d + 1
  | .slice elems spare => uptoBulkAll elems + uptoBulkAll spare + 1
  | .agg parts => uptoBulkAll parts + 1
  | .iface _ d => uptoBulk d + 1
  | .map entries => uptoBulkEntries entries + 1
  | .held _ => 1
def uptoBulkAll {H : Type} : List (DataW H) → Nat
  | [] => 0
  | d :: r => uptoBulk d + uptoBulkAll r
def uptoBulkEntries {H : Type} : List (Lit × DataW H) → Nat
  | [] => 0
  | x :: r => uptoBulkEntry x + uptoBulkEntries r
def uptoBulkEntry {H : Type} : Lit × DataW H → Nat
  | (.string bytes, d) => bytes.length + uptoBulk d + 1
  | (_, d) => uptoBulk d + 1
 end
def uptoSmall : (H : Type) → List (DataW H) → Bool := fun _ ds => decide (uptoBulkAll ds ≤ 1048576)
def OpenSpec.upto (s : _root_.Go.ChangeSpec) : _root_.Go.OpenSpec := { _root_.Go.OpenSpec.ofChange s with cond := some uptoSmall }

/-- 'laws.FnExactArePairs', WHERE WHAT IT READS IS OF BULK AT MOST 1048576: true; the input reads as it did. -/
def fnExactArePairsUptoRow : OpenClaim := { program := "ytbddhjpofijmpaa", sum := "2bfe1c484cae48b1b20f3766cf8cb96531169a71d64945708f16bc58a7292627", func := "loop.example/g01316/laws.FnExactArePairs", spec := "fnExactArePairs", apart := false, narrowed := true }
def FnExactArePairsUptoSaid : Prop := fnExactArePairsUptoRow.holds Try.pinned (OpenSpec.upto fnExactArePairsSpec)

/-- 'laws.FnExactLineNet', WHERE WHAT IT READS IS OF BULK AT MOST 1048576: true; the input reads as it did. -/
def fnExactLineNetUptoRow : OpenClaim := { program := "ytbddhjpofijmpaa", sum := "2bfe1c484cae48b1b20f3766cf8cb96531169a71d64945708f16bc58a7292627", func := "loop.example/g01316/laws.FnExactLineNet", spec := "fnExactLineNet", apart := false, narrowed := true }
def FnExactLineNetUptoSaid : Prop := fnExactLineNetUptoRow.holds Try.pinned (OpenSpec.upto fnExactLineNetSpec)

/-- 'laws.FnExactCircleNet', WHERE WHAT IT READS IS OF BULK AT MOST 1048576: true; the input reads as it did. -/
def fnExactCircleNetUptoRow : OpenClaim := { program := "ytbddhjpofijmpaa", sum := "2bfe1c484cae48b1b20f3766cf8cb96531169a71d64945708f16bc58a7292627", func := "loop.example/g01316/laws.FnExactCircleNet", spec := "fnExactCircleNet", unfollowed := true, recurses := true, apart := false, narrowed := true }
def FnExactCircleNetUptoSaid : Prop := fnExactCircleNetUptoRow.holds Try.pinned (OpenSpec.upto fnExactCircleNetSpec)

/-- 'laws.FnExactStarNet', WHERE WHAT IT READS IS OF BULK AT MOST 1048576: true; the input reads as it did. -/
def fnExactStarNetUptoRow : OpenClaim := { program := "ytbddhjpofijmpaa", sum := "2bfe1c484cae48b1b20f3766cf8cb96531169a71d64945708f16bc58a7292627", func := "loop.example/g01316/laws.FnExactStarNet", spec := "fnExactStarNet", apart := false, narrowed := true }
def FnExactStarNetUptoSaid : Prop := fnExactStarNetUptoRow.holds Try.pinned (OpenSpec.upto fnExactStarNetSpec)

/-- 'laws.FnExactWholeNet', WHERE WHAT IT READS IS OF BULK AT MOST 1048576: true; the input reads as it did. -/
def fnExactWholeNetUptoRow : OpenClaim := { program := "ytbddhjpofijmpaa", sum := "2bfe1c484cae48b1b20f3766cf8cb96531169a71d64945708f16bc58a7292627", func := "loop.example/g01316/laws.FnExactWholeNet", spec := "fnExactWholeNet", apart := false, narrowed := true }
def FnExactWholeNetUptoSaid : Prop := fnExactWholeNetUptoRow.holds Try.pinned (OpenSpec.upto fnExactWholeNetSpec)

/-- 'laws.FnExactAreCallsInNet', WHERE WHAT IT READS IS OF BULK AT MOST 1048576: true; the input reads as it did. -/
def fnExactAreCallsInNetUptoRow : OpenClaim := { program := "ytbddhjpofijmpaa", sum := "2bfe1c484cae48b1b20f3766cf8cb96531169a71d64945708f16bc58a7292627", func := "loop.example/g01316/laws.FnExactAreCallsInNet", spec := "fnExactAreCallsInNet", apart := false, narrowed := true }
def FnExactAreCallsInNetUptoSaid : Prop := fnExactAreCallsInNetUptoRow.holds Try.pinned (OpenSpec.upto fnExactAreCallsInNetSpec)

/-- 'laws.FnExactDegreesOf', WHERE WHAT IT READS IS OF BULK AT MOST 1048576: true; the input reads as it did. -/
def fnExactDegreesOfUptoRow : OpenClaim := { program := "ytbddhjpofijmpaa", sum := "2bfe1c484cae48b1b20f3766cf8cb96531169a71d64945708f16bc58a7292627", func := "loop.example/g01316/laws.FnExactDegreesOf", spec := "fnExactDegreesOf", apart := false, narrowed := true }
def FnExactDegreesOfUptoSaid : Prop := fnExactDegreesOfUptoRow.holds Try.pinned (OpenSpec.upto fnExactDegreesOfSpec)

/-- 'laws.FnExactAddPair', WHERE WHAT IT READS IS OF BULK AT MOST 1048576: true; the input reads as it did. -/
def fnExactAddPairUptoRow : OpenClaim := { program := "ytbddhjpofijmpaa", sum := "2bfe1c484cae48b1b20f3766cf8cb96531169a71d64945708f16bc58a7292627", func := "loop.example/g01316/laws.FnExactAddPair", spec := "fnExactAddPair", unfollowed := true, recurses := true, apart := false, narrowed := true }
def FnExactAddPairUptoSaid : Prop := fnExactAddPairUptoRow.holds Try.pinned (OpenSpec.upto fnExactAddPairSpec)

/-- 'laws.FnExactDropPair', WHERE WHAT IT READS IS OF BULK AT MOST 1048576: true; the input reads as it did. -/
def fnExactDropPairUptoRow : OpenClaim := { program := "ytbddhjpofijmpaa", sum := "2bfe1c484cae48b1b20f3766cf8cb96531169a71d64945708f16bc58a7292627", func := "loop.example/g01316/laws.FnExactDropPair", spec := "fnExactDropPair", apart := false, narrowed := true }
def FnExactDropPairUptoSaid : Prop := fnExactDropPairUptoRow.holds Try.pinned (OpenSpec.upto fnExactDropPairSpec)

end Rows
end Go.Proofs.Ytbddhjpofijmpaa
