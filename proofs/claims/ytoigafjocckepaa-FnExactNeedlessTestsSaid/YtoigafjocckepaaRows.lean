/-
  No cell of these rows narrows 'for every input' (looked for: loops, veiled, ifaces, maps, wideKeys, modest, calm, conditions, laid).
  DERIVED. THE GIVEN ROWS OF THIS SEAT. 7 by the template 'for every input the law returns true; each argument reads behind the call as it read before'; 0 by the template 'total and deterministic' (their statements: YtoigafjocckepaaTotals.lean).
  GIVEN WITH THE SEED: the statements are not yours to turn. If you find one false, say at which input.
  Laid BY PROGRAM, IN A SANDBOX (cutbox-rows.mjs): the forced cells as the released guide's own fill.sh prints them over the translation 7698e56b8f4c81af… (all of the seat's roots in one cut). By AI agents, Wed Nov 11 2026. No macro, syntax, notation, axiom, sorry.
-/
import Derived.Test.YtoigafjocckepaaChecked
import GoSem.Claim
import GoSem.ClaimJoined
import GoSem.ClaimMapViews
import Derived.JoinedTies
import Derived.KernelRfl
namespace Go.Proofs.Ytoigafjocckepaa
/- THE CELL 'sum', in the pinned program and in every row, IS THE sha256 OF THE DUMP (.gsa) THAT YtoigafjocckepaaProg.lean LOADS. Nothing in Lean hashes anything: it is a label: what it is worth is what the hold of that sum in a sandbox is worth. -/
noncomputable def Try.pinned : Pinned := { name := "ytoigafjocckepaa", sum := "7698e56b8f4c81aff611ab69ad6ac5fd243b642d7222bec1023f825998f3dc56", checked := Try.checked }
namespace Rows
def none {H : Type} : Left H := { results := [], args := [] }

/-- 'laws.FnExactCountFitting': WHATEVER THE INPUT: true; the input reads as it did. -/
def fnExactCountFittingSpec : ChangeSpec := { name := "fnExactCountFitting", fn := fun _ => fun
  | [d1, d2, d3, d4] => { results := [.lit (.bool true)], args := [d1, d2, d3, d4] }
  | _ => none }
def fnExactCountFittingRow : OpenClaim := { program := "ytoigafjocckepaa", sum := "7698e56b8f4c81aff611ab69ad6ac5fd243b642d7222bec1023f825998f3dc56", func := "loop.example/g01316/laws.FnExactCountFitting", spec := "fnExactCountFitting", unfollowed := true, recurses := true, apart := false }
def FnExactCountFittingSaid : Prop := fnExactCountFittingRow.holds Try.pinned (OpenSpec.ofChange fnExactCountFittingSpec)

/-- ITS FALSE NEIGHBOUR: 'it returns false'. Refute it at one input. -/
def fnExactCountFittingWrong : ChangeSpec := { name := "fnExactCountFitting", fn := fun _ => fun
  | [d1, d2, d3, d4] => { results := [.lit (.bool false)], args := [d1, d2, d3, d4] }
  | _ => none }
def FnExactCountFittingWrongFalsely : Prop := fnExactCountFittingRow.holds Try.pinned (OpenSpec.ofChange fnExactCountFittingWrong)

/-- 'laws.FnExactFittingSets': WHATEVER THE INPUT: true; the input reads as it did. -/
def fnExactFittingSetsSpec : ChangeSpec := { name := "fnExactFittingSets", fn := fun _ => fun
  | [d1, d2, d3, d4] => { results := [.lit (.bool true)], args := [d1, d2, d3, d4] }
  | _ => none }
def fnExactFittingSetsRow : OpenClaim := { program := "ytoigafjocckepaa", sum := "7698e56b8f4c81aff611ab69ad6ac5fd243b642d7222bec1023f825998f3dc56", func := "loop.example/g01316/laws.FnExactFittingSets", spec := "fnExactFittingSets", unfollowed := true, recurses := true, apart := false }
def FnExactFittingSetsSaid : Prop := fnExactFittingSetsRow.holds Try.pinned (OpenSpec.ofChange fnExactFittingSetsSpec)

/-- ITS FALSE NEIGHBOUR: 'it returns false'. Refute it at one input. -/
def fnExactFittingSetsWrong : ChangeSpec := { name := "fnExactFittingSets", fn := fun _ => fun
  | [d1, d2, d3, d4] => { results := [.lit (.bool false)], args := [d1, d2, d3, d4] }
  | _ => none }
def FnExactFittingSetsWrongFalsely : Prop := fnExactFittingSetsRow.holds Try.pinned (OpenSpec.ofChange fnExactFittingSetsWrong)

/-- 'laws.FnExactTellsUpTo': WHATEVER THE INPUT: true; the input reads as it did. -/
def fnExactTellsUpToSpec : ChangeSpec := { name := "fnExactTellsUpTo", fn := fun _ => fun
  | [d1, d2, d3] => { results := [.lit (.bool true)], args := [d1, d2, d3] }
  | _ => none }
def fnExactTellsUpToRow : OpenClaim := { program := "ytoigafjocckepaa", sum := "7698e56b8f4c81aff611ab69ad6ac5fd243b642d7222bec1023f825998f3dc56", func := "loop.example/g01316/laws.FnExactTellsUpTo", spec := "fnExactTellsUpTo", unfollowed := true, recurses := true, apart := false }
def FnExactTellsUpToSaid : Prop := fnExactTellsUpToRow.holds Try.pinned (OpenSpec.ofChange fnExactTellsUpToSpec)

/-- ITS FALSE NEIGHBOUR: 'it returns false'. Refute it at one input. -/
def fnExactTellsUpToWrong : ChangeSpec := { name := "fnExactTellsUpTo", fn := fun _ => fun
  | [d1, d2, d3] => { results := [.lit (.bool false)], args := [d1, d2, d3] }
  | _ => none }
def FnExactTellsUpToWrongFalsely : Prop := fnExactTellsUpToRow.holds Try.pinned (OpenSpec.ofChange fnExactTellsUpToWrong)

/-- 'laws.FnExactGreatestTold': WHATEVER THE INPUT: true; the input reads as it did. -/
def fnExactGreatestToldSpec : ChangeSpec := { name := "fnExactGreatestTold", fn := fun _ => fun
  | [d1, d2] => { results := [.lit (.bool true)], args := [d1, d2] }
  | _ => none }
def fnExactGreatestToldRow : OpenClaim := { program := "ytoigafjocckepaa", sum := "7698e56b8f4c81aff611ab69ad6ac5fd243b642d7222bec1023f825998f3dc56", func := "loop.example/g01316/laws.FnExactGreatestTold", spec := "fnExactGreatestTold", unfollowed := true, recurses := true, apart := false }
def FnExactGreatestToldSaid : Prop := fnExactGreatestToldRow.holds Try.pinned (OpenSpec.ofChange fnExactGreatestToldSpec)

/-- ITS FALSE NEIGHBOUR: 'it returns false'. Refute it at one input. -/
def fnExactGreatestToldWrong : ChangeSpec := { name := "fnExactGreatestTold", fn := fun _ => fun
  | [d1, d2] => { results := [.lit (.bool false)], args := [d1, d2] }
  | _ => none }
def FnExactGreatestToldWrongFalsely : Prop := fnExactGreatestToldRow.holds Try.pinned (OpenSpec.ofChange fnExactGreatestToldWrong)

/-- 'laws.FnExactNeedlessTests': WHATEVER THE INPUT: true; the input reads as it did. -/
def fnExactNeedlessTestsSpec : ChangeSpec := { name := "fnExactNeedlessTests", fn := fun _ => fun
  | [d1, d2, d3] => { results := [.lit (.bool true)], args := [d1, d2, d3] }
  | _ => none }
def fnExactNeedlessTestsRow : OpenClaim := { program := "ytoigafjocckepaa", sum := "7698e56b8f4c81aff611ab69ad6ac5fd243b642d7222bec1023f825998f3dc56", func := "loop.example/g01316/laws.FnExactNeedlessTests", spec := "fnExactNeedlessTests", unfollowed := true, recurses := true, apart := false }
def FnExactNeedlessTestsSaid : Prop := fnExactNeedlessTestsRow.holds Try.pinned (OpenSpec.ofChange fnExactNeedlessTestsSpec)

/-- ITS FALSE NEIGHBOUR: 'it returns false'. Refute it at one input. -/
def fnExactNeedlessTestsWrong : ChangeSpec := { name := "fnExactNeedlessTests", fn := fun _ => fun
  | [d1, d2, d3] => { results := [.lit (.bool false)], args := [d1, d2, d3] }
  | _ => none }
def FnExactNeedlessTestsWrongFalsely : Prop := fnExactNeedlessTestsRow.holds Try.pinned (OpenSpec.ofChange fnExactNeedlessTestsWrong)

/-- 'laws.FnExactSureWires': WHATEVER THE INPUT: true; the input reads as it did. -/
def fnExactSureWiresSpec : ChangeSpec := { name := "fnExactSureWires", fn := fun _ => fun
  | [d1, d2, d3, d4] => { results := [.lit (.bool true)], args := [d1, d2, d3, d4] }
  | _ => none }
def fnExactSureWiresRow : OpenClaim := { program := "ytoigafjocckepaa", sum := "7698e56b8f4c81aff611ab69ad6ac5fd243b642d7222bec1023f825998f3dc56", func := "loop.example/g01316/laws.FnExactSureWires", spec := "fnExactSureWires", unfollowed := true, recurses := true, apart := false }
def FnExactSureWiresSaid : Prop := fnExactSureWiresRow.holds Try.pinned (OpenSpec.ofChange fnExactSureWiresSpec)

/-- ITS FALSE NEIGHBOUR: 'it returns false'. Refute it at one input. -/
def fnExactSureWiresWrong : ChangeSpec := { name := "fnExactSureWires", fn := fun _ => fun
  | [d1, d2, d3, d4] => { results := [.lit (.bool false)], args := [d1, d2, d3, d4] }
  | _ => none }
def FnExactSureWiresWrongFalsely : Prop := fnExactSureWiresRow.holds Try.pinned (OpenSpec.ofChange fnExactSureWiresWrong)

/-- 'laws.FnExactBestTest': WHATEVER THE INPUT: true; the input reads as it did. -/
def fnExactBestTestSpec : ChangeSpec := { name := "fnExactBestTest", fn := fun _ => fun
  | [d1, d2, d3, d4] => { results := [.lit (.bool true)], args := [d1, d2, d3, d4] }
  | _ => none }
def fnExactBestTestRow : OpenClaim := { program := "ytoigafjocckepaa", sum := "7698e56b8f4c81aff611ab69ad6ac5fd243b642d7222bec1023f825998f3dc56", func := "loop.example/g01316/laws.FnExactBestTest", spec := "fnExactBestTest", unfollowed := true, recurses := true, apart := false }
def FnExactBestTestSaid : Prop := fnExactBestTestRow.holds Try.pinned (OpenSpec.ofChange fnExactBestTestSpec)

/-- ITS FALSE NEIGHBOUR: 'it returns false'. Refute it at one input. -/
def fnExactBestTestWrong : ChangeSpec := { name := "fnExactBestTest", fn := fun _ => fun
  | [d1, d2, d3, d4] => { results := [.lit (.bool false)], args := [d1, d2, d3, d4] }
  | _ => none }
def FnExactBestTestWrongFalsely : Prop := fnExactBestTestRow.holds Try.pinned (OpenSpec.ofChange fnExactBestTestWrong)

/- THE SECOND FORM. 'bulk': how many values and letters a reading holds, each counted each time it is reached (what is shared counts as often as it is met; a slice's spare places count too). A statement '..UptoSaid' is the law's where the arguments, and the package variables that the reading takes, are together of bulk at most 1048576: NARROWER than '..Said'. Prove '..Said' where nothing that the law and all that it calls make is longer than what came in: it says more and counts as full. Else prove '..UptoSaid'. A law counts once. -/
mutual
def uptoBulk {H : Type} : DataW H → Nat
  | .lit (.string bytes) => bytes.length + 1
  | .lit _ => 1
  | .nil => 1
  | .ptr d => uptoBulk d + 1
  | .slice elems spare => uptoBulkAll elems + uptoBulkAll spare + 1
  | .agg parts => uptoBulkAll parts + 1
  | .iface _ d => uptoBulk d + 1
  | .map entries => uptoBulkEntries entries + 1
  | .held _ => 1
def uptoBulkAll {H : Type} : List (DataW H) → Nat
  | [] => 0
  | d :: r => uptoBulk d + uptoBulkAll r
def uptoBulkEntries {H : Type} : List (Lit × DataW H) → Nat
  | [] => 0
  | x :: r => uptoBulkEntry x + uptoBulkEntries r
def uptoBulkEntry {H : Type} : Lit × DataW H → Nat
  | (.string bytes, d) => bytes.length + uptoBulk d + 1
  | (_, d) => uptoBulk d + 1
 end
def uptoSmall : (H : Type) → List (DataW H) → Bool := fun _ ds => decide (uptoBulkAll ds ≤ 1048576)
def OpenSpec.upto (s : _root_.Go.ChangeSpec) : _root_.Go.OpenSpec := { _root_.Go.OpenSpec.ofChange s with cond := some uptoSmall }

/-- 'laws.FnExactCountFitting', WHERE WHAT IT READS IS OF BULK AT MOST 1048576: true; the input reads as it did. -/
def fnExactCountFittingUptoRow : OpenClaim := { program := "ytoigafjocckepaa", sum := "7698e56b8f4c81aff611ab69ad6ac5fd243b642d7222bec1023f825998f3dc56", func := "loop.example/g01316/laws.FnExactCountFitting", spec := "fnExactCountFitting", unfollowed := true, recurses := true, apart := false, narrowed := true }
def FnExactCountFittingUptoSaid : Prop := fnExactCountFittingUptoRow.holds Try.pinned (OpenSpec.upto fnExactCountFittingSpec)

/-- 'laws.FnExactFittingSets', WHERE WHAT IT READS IS OF BULK AT MOST 1048576: true; the input reads as it did. -/
def fnExactFittingSetsUptoRow : OpenClaim := { program := "ytoigafjocckepaa", sum := "7698e56b8f4c81aff611ab69ad6ac5fd243b642d7222bec1023f825998f3dc56", func := "loop.example/g01316/laws.FnExactFittingSets", spec := "fnExactFittingSets", unfollowed := true, recurses := true, apart := false, narrowed := true }
def FnExactFittingSetsUptoSaid : Prop := fnExactFittingSetsUptoRow.holds Try.pinned (OpenSpec.upto fnExactFittingSetsSpec)

/-- 'laws.FnExactTellsUpTo', WHERE WHAT IT READS IS OF BULK AT MOST 1048576: true; the input reads as it did. -/
def fnExactTellsUpToUptoRow : OpenClaim := { program := "ytoigafjocckepaa", sum := "7698e56b8f4c81aff611ab69ad6ac5fd243b642d7222bec1023f825998f3dc56", func := "loop.example/g01316/laws.FnExactTellsUpTo", spec := "fnExactTellsUpTo", unfollowed := true, recurses := true, apart := false, narrowed := true }
def FnExactTellsUpToUptoSaid : Prop := fnExactTellsUpToUptoRow.holds Try.pinned (OpenSpec.upto fnExactTellsUpToSpec)

/-- 'laws.FnExactGreatestTold', WHERE WHAT IT READS IS OF BULK AT MOST 1048576: true; the input reads as it did. -/
def fnExactGreatestToldUptoRow : OpenClaim := { program := "ytoigafjocckepaa", sum := "7698e56b8f4c81aff611ab69ad6ac5fd243b642d7222bec1023f825998f3dc56", func := "loop.example/g01316/laws.FnExactGreatestTold", spec := "fnExactGreatestTold", unfollowed := true, recurses := true, apart := false, narrowed := true }
def FnExactGreatestToldUptoSaid : Prop := fnExactGreatestToldUptoRow.holds Try.pinned (OpenSpec.upto fnExactGreatestToldSpec)

/-- 'laws.FnExactNeedlessTests', WHERE WHAT IT READS IS OF BULK AT MOST 1048576: true; the input reads as it did. -/
def fnExactNeedlessTestsUptoRow : OpenClaim := { program := "ytoigafjocckepaa", sum := "7698e56b8f4c81aff611ab69ad6ac5fd243b642d7222bec1023f825998f3dc56", func := "loop.example/g01316/laws.FnExactNeedlessTests", spec := "fnExactNeedlessTests", unfollowed := true, recurses := true, apart := false, narrowed := true }
def FnExactNeedlessTestsUptoSaid : Prop := fnExactNeedlessTestsUptoRow.holds Try.pinned (OpenSpec.upto fnExactNeedlessTestsSpec)

/-- 'laws.FnExactSureWires', WHERE WHAT IT READS IS OF BULK AT MOST 1048576: true; the input reads as it did. -/
def fnExactSureWiresUptoRow : OpenClaim := { program := "ytoigafjocckepaa", sum := "7698e56b8f4c81aff611ab69ad6ac5fd243b642d7222bec1023f825998f3dc56", func := "loop.example/g01316/laws.FnExactSureWires", spec := "fnExactSureWires", unfollowed := true, recurses := true, apart := false, narrowed := true }
def FnExactSureWiresUptoSaid : Prop := fnExactSureWiresUptoRow.holds Try.pinned (OpenSpec.upto fnExactSureWiresSpec)

/-- 'laws.FnExactBestTest', WHERE WHAT IT READS IS OF BULK AT MOST 1048576: true; the input reads as it did. -/
def fnExactBestTestUptoRow : OpenClaim := { program := "ytoigafjocckepaa", sum := "7698e56b8f4c81aff611ab69ad6ac5fd243b642d7222bec1023f825998f3dc56", func := "loop.example/g01316/laws.FnExactBestTest", spec := "fnExactBestTest", unfollowed := true, recurses := true, apart := false, narrowed := true }
def FnExactBestTestUptoSaid : Prop := fnExactBestTestUptoRow.holds Try.pinned (OpenSpec.upto fnExactBestTestSpec)

end Rows
end Go.Proofs.Ytoigafjocckepaa
