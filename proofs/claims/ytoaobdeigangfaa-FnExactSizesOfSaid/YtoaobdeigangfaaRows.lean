/-
  No cell of these rows narrows 'for every input' (looked for: loops, veiled, ifaces, maps, wideKeys, modest, calm, conditions, laid).
  DERIVED. THE GIVEN ROWS OF THIS SEAT. 10 by the template 'for every input the law returns true; each argument reads behind the call as it read before'; 0 by the template 'total and deterministic' (their statements: YtoaobdeigangfaaTotals.lean).
  GIVEN WITH THE SEED: the statements are not yours to turn. If you find one false, say at which input.
  Laid BY PROGRAM, IN A SANDBOX (cutbox-rows.mjs): the forced cells as the released guide's own fill.sh prints them over the translation 400015a79f325a4b… (all of the seat's roots in one cut). By AI agents, Wed Nov 11 2026. No macro, syntax, notation, axiom, sorry.
-/
import Derived.Test.YtoaobdeigangfaaChecked
import GoSem.Claim
import GoSem.ClaimJoined
import GoSem.ClaimMapViews
import Derived.JoinedTies
import Derived.KernelRfl
namespace Go.Proofs.Ytoaobdeigangfaa
/- THE CELL 'sum', in the pinned program and in every row, IS THE sha256 OF THE DUMP (.gsa) THAT YtoaobdeigangfaaProg.lean LOADS. Nothing in Lean hashes anything: it is a label: what it is worth is what the hold of that sum in a sandbox is worth. -/
noncomputable def Try.pinned : Pinned := { name := "ytoaobdeigangfaa", sum := "400015a79f325a4bd7d4efdcf928207dcf1333b8534eacbb7e5223875894d1f3", checked := Try.checked }
namespace Rows
def none {H : Type} : Left H := { results := [], args := [] }

/-- 'laws.FnExactIsGrouping': WHATEVER THE INPUT: true; the input reads as it did. -/
def fnExactIsGroupingSpec : ChangeSpec := { name := "fnExactIsGrouping", fn := fun _ => fun
  | [d] => { results := [.lit (.bool true)], args := [d] }
  | _ => none }
def fnExactIsGroupingRow : OpenClaim := { program := "ytoaobdeigangfaa", sum := "400015a79f325a4bd7d4efdcf928207dcf1333b8534eacbb7e5223875894d1f3", func := "loop.example/g01316/laws.FnExactIsGrouping", spec := "fnExactIsGrouping", apart := false }
def FnExactIsGroupingSaid : Prop := fnExactIsGroupingRow.holds Try.pinned (OpenSpec.ofChange fnExactIsGroupingSpec)

/-- ITS FALSE NEIGHBOUR: 'it returns false'. Refute it at one input. -/
def fnExactIsGroupingWrong : ChangeSpec := { name := "fnExactIsGrouping", fn := fun _ => fun
  | [d] => { results := [.lit (.bool false)], args := [d] }
  | _ => none }
def FnExactIsGroupingWrongFalsely : Prop := fnExactIsGroupingRow.holds Try.pinned (OpenSpec.ofChange fnExactIsGroupingWrong)

/-- 'laws.FnExactGroupsOf': WHATEVER THE INPUT: true; the input reads as it did. -/
def fnExactGroupsOfSpec : ChangeSpec := { name := "fnExactGroupsOf", fn := fun _ => fun
  | [d] => { results := [.lit (.bool true)], args := [d] }
  | _ => none }
def fnExactGroupsOfRow : OpenClaim := { program := "ytoaobdeigangfaa", sum := "400015a79f325a4bd7d4efdcf928207dcf1333b8534eacbb7e5223875894d1f3", func := "loop.example/g01316/laws.FnExactGroupsOf", spec := "fnExactGroupsOf", apart := false }
def FnExactGroupsOfSaid : Prop := fnExactGroupsOfRow.holds Try.pinned (OpenSpec.ofChange fnExactGroupsOfSpec)

/-- ITS FALSE NEIGHBOUR: 'it returns false'. Refute it at one input. -/
def fnExactGroupsOfWrong : ChangeSpec := { name := "fnExactGroupsOf", fn := fun _ => fun
  | [d] => { results := [.lit (.bool false)], args := [d] }
  | _ => none }
def FnExactGroupsOfWrongFalsely : Prop := fnExactGroupsOfRow.holds Try.pinned (OpenSpec.ofChange fnExactGroupsOfWrong)

/-- 'laws.FnExactSizesOf': WHATEVER THE INPUT: true; the input reads as it did. -/
def fnExactSizesOfSpec : ChangeSpec := { name := "fnExactSizesOf", fn := fun _ => fun
  | [d] => { results := [.lit (.bool true)], args := [d] }
  | _ => none }
def fnExactSizesOfRow : OpenClaim := { program := "ytoaobdeigangfaa", sum := "400015a79f325a4bd7d4efdcf928207dcf1333b8534eacbb7e5223875894d1f3", func := "loop.example/g01316/laws.FnExactSizesOf", spec := "fnExactSizesOf", unfollowed := true, recurses := true, apart := false }
def FnExactSizesOfSaid : Prop := fnExactSizesOfRow.holds Try.pinned (OpenSpec.ofChange fnExactSizesOfSpec)

/-- ITS FALSE NEIGHBOUR: 'it returns false'. Refute it at one input. -/
def fnExactSizesOfWrong : ChangeSpec := { name := "fnExactSizesOf", fn := fun _ => fun
  | [d] => { results := [.lit (.bool false)], args := [d] }
  | _ => none }
def FnExactSizesOfWrongFalsely : Prop := fnExactSizesOfRow.holds Try.pinned (OpenSpec.ofChange fnExactSizesOfWrong)

/-- 'laws.FnExactCountGroupings': WHATEVER THE INPUT: true; the input reads as it did. -/
def fnExactCountGroupingsSpec : ChangeSpec := { name := "fnExactCountGroupings", fn := fun _ => fun
  | [d] => { results := [.lit (.bool true)], args := [d] }
  | _ => none }
def fnExactCountGroupingsRow : OpenClaim := { program := "ytoaobdeigangfaa", sum := "400015a79f325a4bd7d4efdcf928207dcf1333b8534eacbb7e5223875894d1f3", func := "loop.example/g01316/laws.FnExactCountGroupings", spec := "fnExactCountGroupings", apart := false }
def FnExactCountGroupingsSaid : Prop := fnExactCountGroupingsRow.holds Try.pinned (OpenSpec.ofChange fnExactCountGroupingsSpec)

/-- ITS FALSE NEIGHBOUR: 'it returns false'. Refute it at one input. -/
def fnExactCountGroupingsWrong : ChangeSpec := { name := "fnExactCountGroupings", fn := fun _ => fun
  | [d] => { results := [.lit (.bool false)], args := [d] }
  | _ => none }
def FnExactCountGroupingsWrongFalsely : Prop := fnExactCountGroupingsRow.holds Try.pinned (OpenSpec.ofChange fnExactCountGroupingsWrong)

/-- 'laws.FnExactFirstBySizes': WHATEVER THE INPUT: true; the input reads as it did. -/
def fnExactFirstBySizesSpec : ChangeSpec := { name := "fnExactFirstBySizes", fn := fun _ => fun
  | [d] => { results := [.lit (.bool true)], args := [d] }
  | _ => none }
def fnExactFirstBySizesRow : OpenClaim := { program := "ytoaobdeigangfaa", sum := "400015a79f325a4bd7d4efdcf928207dcf1333b8534eacbb7e5223875894d1f3", func := "loop.example/g01316/laws.FnExactFirstBySizes", spec := "fnExactFirstBySizes", unfollowed := true, recurses := true, apart := false }
def FnExactFirstBySizesSaid : Prop := fnExactFirstBySizesRow.holds Try.pinned (OpenSpec.ofChange fnExactFirstBySizesSpec)

/-- ITS FALSE NEIGHBOUR: 'it returns false'. Refute it at one input. -/
def fnExactFirstBySizesWrong : ChangeSpec := { name := "fnExactFirstBySizes", fn := fun _ => fun
  | [d] => { results := [.lit (.bool false)], args := [d] }
  | _ => none }
def FnExactFirstBySizesWrongFalsely : Prop := fnExactFirstBySizesRow.holds Try.pinned (OpenSpec.ofChange fnExactFirstBySizesWrong)

/-- 'laws.FnExactLabelsOf': WHATEVER THE INPUT: true; the input reads as it did. -/
def fnExactLabelsOfSpec : ChangeSpec := { name := "fnExactLabelsOf", fn := fun _ => fun
  | [d1, d2] => { results := [.lit (.bool true)], args := [d1, d2] }
  | _ => none }
def fnExactLabelsOfRow : OpenClaim := { program := "ytoaobdeigangfaa", sum := "400015a79f325a4bd7d4efdcf928207dcf1333b8534eacbb7e5223875894d1f3", func := "loop.example/g01316/laws.FnExactLabelsOf", spec := "fnExactLabelsOf", apart := false }
def FnExactLabelsOfSaid : Prop := fnExactLabelsOfRow.holds Try.pinned (OpenSpec.ofChange fnExactLabelsOfSpec)

/-- ITS FALSE NEIGHBOUR: 'it returns false'. Refute it at one input. -/
def fnExactLabelsOfWrong : ChangeSpec := { name := "fnExactLabelsOf", fn := fun _ => fun
  | [d1, d2] => { results := [.lit (.bool false)], args := [d1, d2] }
  | _ => none }
def FnExactLabelsOfWrongFalsely : Prop := fnExactLabelsOfRow.holds Try.pinned (OpenSpec.ofChange fnExactLabelsOfWrong)

/-- 'laws.FnExactStairGrouping': WHATEVER THE INPUT: true; the input reads as it did. -/
def fnExactStairGroupingSpec : ChangeSpec := { name := "fnExactStairGrouping", fn := fun _ => fun
  | [d] => { results := [.lit (.bool true)], args := [d] }
  | _ => none }
def fnExactStairGroupingRow : OpenClaim := { program := "ytoaobdeigangfaa", sum := "400015a79f325a4bd7d4efdcf928207dcf1333b8534eacbb7e5223875894d1f3", func := "loop.example/g01316/laws.FnExactStairGrouping", spec := "fnExactStairGrouping", apart := false }
def FnExactStairGroupingSaid : Prop := fnExactStairGroupingRow.holds Try.pinned (OpenSpec.ofChange fnExactStairGroupingSpec)

/-- ITS FALSE NEIGHBOUR: 'it returns false'. Refute it at one input. -/
def fnExactStairGroupingWrong : ChangeSpec := { name := "fnExactStairGrouping", fn := fun _ => fun
  | [d] => { results := [.lit (.bool false)], args := [d] }
  | _ => none }
def FnExactStairGroupingWrongFalsely : Prop := fnExactStairGroupingRow.holds Try.pinned (OpenSpec.ofChange fnExactStairGroupingWrong)

/-- 'laws.FnExactRenameWires': WHATEVER THE INPUT: true; the input reads as it did. -/
def fnExactRenameWiresSpec : ChangeSpec := { name := "fnExactRenameWires", fn := fun _ => fun
  | [d1, d2] => { results := [.lit (.bool true)], args := [d1, d2] }
  | _ => none }
def fnExactRenameWiresRow : OpenClaim := { program := "ytoaobdeigangfaa", sum := "400015a79f325a4bd7d4efdcf928207dcf1333b8534eacbb7e5223875894d1f3", func := "loop.example/g01316/laws.FnExactRenameWires", spec := "fnExactRenameWires", apart := false }
def FnExactRenameWiresSaid : Prop := fnExactRenameWiresRow.holds Try.pinned (OpenSpec.ofChange fnExactRenameWiresSpec)

/-- ITS FALSE NEIGHBOUR: 'it returns false'. Refute it at one input. -/
def fnExactRenameWiresWrong : ChangeSpec := { name := "fnExactRenameWires", fn := fun _ => fun
  | [d1, d2] => { results := [.lit (.bool false)], args := [d1, d2] }
  | _ => none }
def FnExactRenameWiresWrongFalsely : Prop := fnExactRenameWiresRow.holds Try.pinned (OpenSpec.ofChange fnExactRenameWiresWrong)

/-- 'laws.FnExactGroupingText': WHATEVER THE INPUT: true; the input reads as it did. -/
def fnExactGroupingTextSpec : ChangeSpec := { name := "fnExactGroupingText", fn := fun _ => fun
  | [d] => { results := [.lit (.bool true)], args := [d] }
  | _ => none }
def fnExactGroupingTextRow : OpenClaim := { program := "ytoaobdeigangfaa", sum := "400015a79f325a4bd7d4efdcf928207dcf1333b8534eacbb7e5223875894d1f3", func := "loop.example/g01316/laws.FnExactGroupingText", spec := "fnExactGroupingText", apart := false }
def FnExactGroupingTextSaid : Prop := fnExactGroupingTextRow.holds Try.pinned (OpenSpec.ofChange fnExactGroupingTextSpec)

/-- ITS FALSE NEIGHBOUR: 'it returns false'. Refute it at one input. -/
def fnExactGroupingTextWrong : ChangeSpec := { name := "fnExactGroupingText", fn := fun _ => fun
  | [d] => { results := [.lit (.bool false)], args := [d] }
  | _ => none }
def FnExactGroupingTextWrongFalsely : Prop := fnExactGroupingTextRow.holds Try.pinned (OpenSpec.ofChange fnExactGroupingTextWrong)

/-- 'laws.FnExactParseGrouping': WHATEVER THE INPUT: true; the input reads as it did. -/
def fnExactParseGroupingSpec : ChangeSpec := { name := "fnExactParseGrouping", fn := fun _ => fun
  | [d] => { results := [.lit (.bool true)], args := [d] }
  | _ => none }
def fnExactParseGroupingRow : OpenClaim := { program := "ytoaobdeigangfaa", sum := "400015a79f325a4bd7d4efdcf928207dcf1333b8534eacbb7e5223875894d1f3", func := "loop.example/g01316/laws.FnExactParseGrouping", spec := "fnExactParseGrouping", apart := false }
def FnExactParseGroupingSaid : Prop := fnExactParseGroupingRow.holds Try.pinned (OpenSpec.ofChange fnExactParseGroupingSpec)

/-- ITS FALSE NEIGHBOUR: 'it returns false'. Refute it at one input. -/
def fnExactParseGroupingWrong : ChangeSpec := { name := "fnExactParseGrouping", fn := fun _ => fun
  | [d] => { results := [.lit (.bool false)], args := [d] }
  | _ => none }
def FnExactParseGroupingWrongFalsely : Prop := fnExactParseGroupingRow.holds Try.pinned (OpenSpec.ofChange fnExactParseGroupingWrong)

/- THE SECOND FORM. 'bulk': how many values and letters a reading holds, each counted each time it is reached (what is shared counts as often as it is met; a slice's spare places count too). A statement '..UptoSaid' is the law's where the arguments, and the package variables that the reading takes, are together of bulk at most 1048576: NARROWER than '..Said'. Prove '..Said' where nothing that the law and all that it calls make is longer than what came in: it says more and counts as full. Else prove '..UptoSaid'. A law counts once. -/
mutual
def uptoBulk {H : Type} : DataW H → Nat
  | .lit (.string bytes) => bytes.length + 1
  | .lit _ => 1
  | .nil => 1
  | .ptr d => uptoBulk d + 1
  | .slice elems spare => uptoBulkAll elems + uptoBulkAll spare + 1
  | .agg parts => uptoBulkAll parts + 1
  | .iface _ d => uptoBulk d + 1
  | .map entries => uptoBulkEntries entries + 1
  | .held _ => 1
def uptoBulkAll {H : Type} : List (DataW H) → Nat
  | [] => 0
  | d :: r => uptoBulk d + uptoBulkAll r
def uptoBulkEntries {H : Type} : List (Lit × DataW H) → Nat
  | [] => 0
  | x :: r => uptoBulkEntry x + uptoBulkEntries r
def uptoBulkEntry {H : Type} : Lit × DataW H → Nat
  | (.string bytes, d) => bytes.length + uptoBulk d + 1
  | (_, d) => uptoBulk d + 1
 end
def uptoSmall : (H : Type) → List (DataW H) → Bool := fun _ ds => decide (uptoBulkAll ds ≤ 1048576)
def OpenSpec.upto (s : _root_.Go.ChangeSpec) : _root_.Go.OpenSpec := { _root_.Go.OpenSpec.ofChange s with cond := some uptoSmall }

/-- 'laws.FnExactIsGrouping', WHERE WHAT IT READS IS OF BULK AT MOST 1048576: true; the input reads as it did. -/
def fnExactIsGroupingUptoRow : OpenClaim := { program := "ytoaobdeigangfaa", sum := "400015a79f325a4bd7d4efdcf928207dcf1333b8534eacbb7e5223875894d1f3", func := "loop.example/g01316/laws.FnExactIsGrouping", spec := "fnExactIsGrouping", apart := false, narrowed := true }
def FnExactIsGroupingUptoSaid : Prop := fnExactIsGroupingUptoRow.holds Try.pinned (OpenSpec.upto fnExactIsGroupingSpec)

/-- 'laws.FnExactGroupsOf', WHERE WHAT IT READS IS OF BULK AT MOST 1048576: true; the input reads as it did. -/
def fnExactGroupsOfUptoRow : OpenClaim := { program := "ytoaobdeigangfaa", sum := "400015a79f325a4bd7d4efdcf928207dcf1333b8534eacbb7e5223875894d1f3", func := "loop.example/g01316/laws.FnExactGroupsOf", spec := "fnExactGroupsOf", apart := false, narrowed := true }
def FnExactGroupsOfUptoSaid : Prop := fnExactGroupsOfUptoRow.holds Try.pinned (OpenSpec.upto fnExactGroupsOfSpec)

/-- 'laws.FnExactSizesOf', WHERE WHAT IT READS IS OF BULK AT MOST 1048576: true; the input reads as it did. -/
def fnExactSizesOfUptoRow : OpenClaim := { program := "ytoaobdeigangfaa", sum := "400015a79f325a4bd7d4efdcf928207dcf1333b8534eacbb7e5223875894d1f3", func := "loop.example/g01316/laws.FnExactSizesOf", spec := "fnExactSizesOf", unfollowed := true, recurses := true, apart := false, narrowed := true }
def FnExactSizesOfUptoSaid : Prop := fnExactSizesOfUptoRow.holds Try.pinned (OpenSpec.upto fnExactSizesOfSpec)

/-- 'laws.FnExactCountGroupings', WHERE WHAT IT READS IS OF BULK AT MOST 1048576: true; the input reads as it did. -/
def fnExactCountGroupingsUptoRow : OpenClaim := { program := "ytoaobdeigangfaa", sum := "400015a79f325a4bd7d4efdcf928207dcf1333b8534eacbb7e5223875894d1f3", func := "loop.example/g01316/laws.FnExactCountGroupings", spec := "fnExactCountGroupings", apart := false, narrowed := true }
def FnExactCountGroupingsUptoSaid : Prop := fnExactCountGroupingsUptoRow.holds Try.pinned (OpenSpec.upto fnExactCountGroupingsSpec)

/-- 'laws.FnExactFirstBySizes', WHERE WHAT IT READS IS OF BULK AT MOST 1048576: true; the input reads as it did. -/
def fnExactFirstBySizesUptoRow : OpenClaim := { program := "ytoaobdeigangfaa", sum := "400015a79f325a4bd7d4efdcf928207dcf1333b8534eacbb7e5223875894d1f3", func := "loop.example/g01316/laws.FnExactFirstBySizes", spec := "fnExactFirstBySizes", unfollowed := true, recurses := true, apart := false, narrowed := true }
def FnExactFirstBySizesUptoSaid : Prop := fnExactFirstBySizesUptoRow.holds Try.pinned (OpenSpec.upto fnExactFirstBySizesSpec)

/-- 'laws.FnExactLabelsOf', WHERE WHAT IT READS IS OF BULK AT MOST 1048576: true; the input reads as it did. -/
def fnExactLabelsOfUptoRow : OpenClaim := { program := "ytoaobdeigangfaa", sum := "400015a79f325a4bd7d4efdcf928207dcf1333b8534eacbb7e5223875894d1f3", func := "loop.example/g01316/laws.FnExactLabelsOf", spec := "fnExactLabelsOf", apart := false, narrowed := true }
def FnExactLabelsOfUptoSaid : Prop := fnExactLabelsOfUptoRow.holds Try.pinned (OpenSpec.upto fnExactLabelsOfSpec)

/-- 'laws.FnExactStairGrouping', WHERE WHAT IT READS IS OF BULK AT MOST 1048576: true; the input reads as it did. -/
def fnExactStairGroupingUptoRow : OpenClaim := { program := "ytoaobdeigangfaa", sum := "400015a79f325a4bd7d4efdcf928207dcf1333b8534eacbb7e5223875894d1f3", func := "loop.example/g01316/laws.FnExactStairGrouping", spec := "fnExactStairGrouping", apart := false, narrowed := true }
def FnExactStairGroupingUptoSaid : Prop := fnExactStairGroupingUptoRow.holds Try.pinned (OpenSpec.upto fnExactStairGroupingSpec)

/-- 'laws.FnExactRenameWires', WHERE WHAT IT READS IS OF BULK AT MOST 1048576: true; the input reads as it did. -/
def fnExactRenameWiresUptoRow : OpenClaim := { program := "ytoaobdeigangfaa", sum := "400015a79f325a4bd7d4efdcf928207dcf1333b8534eacbb7e5223875894d1f3", func := "loop.example/g01316/laws.FnExactRenameWires", spec := "fnExactRenameWires", apart := false, narrowed := true }
def FnExactRenameWiresUptoSaid : Prop := fnExactRenameWiresUptoRow.holds Try.pinned (OpenSpec.upto fnExactRenameWiresSpec)

/-- 'laws.FnExactGroupingText', WHERE WHAT IT READS IS OF BULK AT MOST 1048576: true; the input reads as it did. -/
def fnExactGroupingTextUptoRow : OpenClaim := { program := "ytoaobdeigangfaa", sum := "400015a79f325a4bd7d4efdcf928207dcf1333b8534eacbb7e5223875894d1f3", func := "loop.example/g01316/laws.FnExactGroupingText", spec := "fnExactGroupingText", apart := false, narrowed := true }
def FnExactGroupingTextUptoSaid : Prop := fnExactGroupingTextUptoRow.holds Try.pinned (OpenSpec.upto fnExactGroupingTextSpec)

/-- 'laws.FnExactParseGrouping', WHERE WHAT IT READS IS OF BULK AT MOST 1048576: true; the input reads as it did. -/
def fnExactParseGroupingUptoRow : OpenClaim := { program := "ytoaobdeigangfaa", sum := "400015a79f325a4bd7d4efdcf928207dcf1333b8534eacbb7e5223875894d1f3", func := "loop.example/g01316/laws.FnExactParseGrouping", spec := "fnExactParseGrouping", apart := false, narrowed := true }
def FnExactParseGroupingUptoSaid : Prop := fnExactParseGroupingUptoRow.holds Try.pinned (OpenSpec.upto fnExactParseGroupingSpec)

end Rows
end Go.Proofs.Ytoaobdeigangfaa
