/-
  No cell of these rows narrows 'for every input' (looked for: loops, veiled, ifaces, maps, wideKeys, modest, calm, conditions, laid).
  DERIVED. THE GIVEN ROWS OF THIS SEAT. 7 by the template 'for every input the law returns true; each argument reads behind the call as it read before'; 0 by the template 'total and deterministic' (their statements: YtibjapfaljeclaaTotals.lean).
  GIVEN WITH THE SEED: the statements are not yours to turn. If you find one false, say at which input.
  Laid BY PROGRAM, IN A SANDBOX (cutbox-rows.mjs): the forced cells as the released guide's own fill.sh prints them over the translation 4b7d24280324abca… (all of the seat's roots in one cut). By AI agents, Wed Nov 11 2026. No macro, syntax, notation, axiom, sorry.
-/
import Derived.Test.YtibjapfaljeclaaChecked
import GoSem.Claim
import GoSem.ClaimJoined
import GoSem.ClaimMapViews
import Derived.JoinedTies
import Derived.KernelRfl
namespace Go.Proofs.Ytibjapfaljeclaa
/- THE CELL 'sum', in the pinned program and in every row, IS THE sha256 OF THE DUMP (.gsa) THAT YtibjapfaljeclaaProg.lean LOADS. Nothing in Lean hashes anything: it is a label: what it is worth is what the hold of that sum in a sandbox is worth. -/
noncomputable def Try.pinned : Pinned := { name := "ytibjapfaljeclaa", sum := "4b7d24280324abca4d2fa7c84812fde30a000a4cf3deaeeeaa9e70f0d45cb890", checked := Try.checked }
namespace Rows
def none {H : Type} : Left H := { results := [], args := [] }

/-- 'laws.FnExactIsJoined': WHATEVER THE INPUT: true; the input reads as it did. -/
def fnExactIsJoinedSpec : ChangeSpec := { name := "fnExactIsJoined", fn := fun _ => fun
  | [d1, d2] => { results := [.lit (.bool true)], args := [d1, d2] }
  | _ => none }
def fnExactIsJoinedRow : OpenClaim := { program := "ytibjapfaljeclaa", sum := "4b7d24280324abca4d2fa7c84812fde30a000a4cf3deaeeeaa9e70f0d45cb890", func := "loop.example/g01316/laws.FnExactIsJoined", spec := "fnExactIsJoined", apart := false }
def FnExactIsJoinedSaid : Prop := fnExactIsJoinedRow.holds Try.pinned (OpenSpec.ofChange fnExactIsJoinedSpec)

/-- ITS FALSE NEIGHBOUR: 'it returns false'. Refute it at one input. -/
def fnExactIsJoinedWrong : ChangeSpec := { name := "fnExactIsJoined", fn := fun _ => fun
  | [d1, d2] => { results := [.lit (.bool false)], args := [d1, d2] }
  | _ => none }
def FnExactIsJoinedWrongFalsely : Prop := fnExactIsJoinedRow.holds Try.pinned (OpenSpec.ofChange fnExactIsJoinedWrong)

/-- 'laws.FnExactFirstSquare': WHATEVER THE INPUT: true; the input reads as it did. -/
def fnExactFirstSquareSpec : ChangeSpec := { name := "fnExactFirstSquare", fn := fun _ => fun
  | [d1, d2] => { results := [.lit (.bool true)], args := [d1, d2] }
  | _ => none }
def fnExactFirstSquareRow : OpenClaim := { program := "ytibjapfaljeclaa", sum := "4b7d24280324abca4d2fa7c84812fde30a000a4cf3deaeeeaa9e70f0d45cb890", func := "loop.example/g01316/laws.FnExactFirstSquare", spec := "fnExactFirstSquare", apart := false }
def FnExactFirstSquareSaid : Prop := fnExactFirstSquareRow.holds Try.pinned (OpenSpec.ofChange fnExactFirstSquareSpec)

/-- ITS FALSE NEIGHBOUR: 'it returns false'. Refute it at one input. -/
def fnExactFirstSquareWrong : ChangeSpec := { name := "fnExactFirstSquare", fn := fun _ => fun
  | [d1, d2] => { results := [.lit (.bool false)], args := [d1, d2] }
  | _ => none }
def FnExactFirstSquareWrongFalsely : Prop := fnExactFirstSquareRow.holds Try.pinned (OpenSpec.ofChange fnExactFirstSquareWrong)

/-- 'laws.FnExactCountSquares': WHATEVER THE INPUT: true; the input reads as it did. -/
def fnExactCountSquaresSpec : ChangeSpec := { name := "fnExactCountSquares", fn := fun _ => fun
  | [d1, d2] => { results := [.lit (.bool true)], args := [d1, d2] }
  | _ => none }
def fnExactCountSquaresRow : OpenClaim := { program := "ytibjapfaljeclaa", sum := "4b7d24280324abca4d2fa7c84812fde30a000a4cf3deaeeeaa9e70f0d45cb890", func := "loop.example/g01316/laws.FnExactCountSquares", spec := "fnExactCountSquares", apart := false }
def FnExactCountSquaresSaid : Prop := fnExactCountSquaresRow.holds Try.pinned (OpenSpec.ofChange fnExactCountSquaresSpec)

/-- ITS FALSE NEIGHBOUR: 'it returns false'. Refute it at one input. -/
def fnExactCountSquaresWrong : ChangeSpec := { name := "fnExactCountSquares", fn := fun _ => fun
  | [d1, d2] => { results := [.lit (.bool false)], args := [d1, d2] }
  | _ => none }
def FnExactCountSquaresWrongFalsely : Prop := fnExactCountSquaresRow.holds Try.pinned (OpenSpec.ofChange fnExactCountSquaresWrong)

/-- 'laws.FnExactFewestInNet': WHATEVER THE INPUT: true; the input reads as it did. -/
def fnExactFewestInNetSpec : ChangeSpec := { name := "fnExactFewestInNet", fn := fun _ => fun
  | [d1, d2] => { results := [.lit (.bool true)], args := [d1, d2] }
  | _ => none }
def fnExactFewestInNetRow : OpenClaim := { program := "ytibjapfaljeclaa", sum := "4b7d24280324abca4d2fa7c84812fde30a000a4cf3deaeeeaa9e70f0d45cb890", func := "loop.example/g01316/laws.FnExactFewestInNet", spec := "fnExactFewestInNet", apart := false }
def FnExactFewestInNetSaid : Prop := fnExactFewestInNetRow.holds Try.pinned (OpenSpec.ofChange fnExactFewestInNetSpec)

/-- ITS FALSE NEIGHBOUR: 'it returns false'. Refute it at one input. -/
def fnExactFewestInNetWrong : ChangeSpec := { name := "fnExactFewestInNet", fn := fun _ => fun
  | [d1, d2] => { results := [.lit (.bool false)], args := [d1, d2] }
  | _ => none }
def FnExactFewestInNetWrongFalsely : Prop := fnExactFewestInNetRow.holds Try.pinned (OpenSpec.ofChange fnExactFewestInNetWrong)

/-- 'laws.FnExactDistanceInNet': WHATEVER THE INPUT: true; the input reads as it did. -/
def fnExactDistanceInNetSpec : ChangeSpec := { name := "fnExactDistanceInNet", fn := fun _ => fun
  | [d1, d2, d3, d4] => { results := [.lit (.bool true)], args := [d1, d2, d3, d4] }
  | _ => none }
def fnExactDistanceInNetRow : OpenClaim := { program := "ytibjapfaljeclaa", sum := "4b7d24280324abca4d2fa7c84812fde30a000a4cf3deaeeeaa9e70f0d45cb890", func := "loop.example/g01316/laws.FnExactDistanceInNet", spec := "fnExactDistanceInNet", apart := false }
def FnExactDistanceInNetSaid : Prop := fnExactDistanceInNetRow.holds Try.pinned (OpenSpec.ofChange fnExactDistanceInNetSpec)

/-- ITS FALSE NEIGHBOUR: 'it returns false'. Refute it at one input. -/
def fnExactDistanceInNetWrong : ChangeSpec := { name := "fnExactDistanceInNet", fn := fun _ => fun
  | [d1, d2, d3, d4] => { results := [.lit (.bool false)], args := [d1, d2, d3, d4] }
  | _ => none }
def FnExactDistanceInNetWrongFalsely : Prop := fnExactDistanceInNetRow.holds Try.pinned (OpenSpec.ofChange fnExactDistanceInNetWrong)

/-- 'laws.FnExactFarthestInNet': WHATEVER THE INPUT: true; the input reads as it did. -/
def fnExactFarthestInNetSpec : ChangeSpec := { name := "fnExactFarthestInNet", fn := fun _ => fun
  | [d1, d2] => { results := [.lit (.bool true)], args := [d1, d2] }
  | _ => none }
def fnExactFarthestInNetRow : OpenClaim := { program := "ytibjapfaljeclaa", sum := "4b7d24280324abca4d2fa7c84812fde30a000a4cf3deaeeeaa9e70f0d45cb890", func := "loop.example/g01316/laws.FnExactFarthestInNet", spec := "fnExactFarthestInNet", apart := false }
def FnExactFarthestInNetSaid : Prop := fnExactFarthestInNetRow.holds Try.pinned (OpenSpec.ofChange fnExactFarthestInNetSpec)

/-- ITS FALSE NEIGHBOUR: 'it returns false'. Refute it at one input. -/
def fnExactFarthestInNetWrong : ChangeSpec := { name := "fnExactFarthestInNet", fn := fun _ => fun
  | [d1, d2] => { results := [.lit (.bool false)], args := [d1, d2] }
  | _ => none }
def FnExactFarthestInNetWrongFalsely : Prop := fnExactFarthestInNetRow.holds Try.pinned (OpenSpec.ofChange fnExactFarthestInNetWrong)

/-- 'laws.FnExactBridgesOf': WHATEVER THE INPUT: true; the input reads as it did. -/
def fnExactBridgesOfSpec : ChangeSpec := { name := "fnExactBridgesOf", fn := fun _ => fun
  | [d1, d2] => { results := [.lit (.bool true)], args := [d1, d2] }
  | _ => none }
def fnExactBridgesOfRow : OpenClaim := { program := "ytibjapfaljeclaa", sum := "4b7d24280324abca4d2fa7c84812fde30a000a4cf3deaeeeaa9e70f0d45cb890", func := "loop.example/g01316/laws.FnExactBridgesOf", spec := "fnExactBridgesOf", apart := false }
def FnExactBridgesOfSaid : Prop := fnExactBridgesOfRow.holds Try.pinned (OpenSpec.ofChange fnExactBridgesOfSpec)

/-- ITS FALSE NEIGHBOUR: 'it returns false'. Refute it at one input. -/
def fnExactBridgesOfWrong : ChangeSpec := { name := "fnExactBridgesOf", fn := fun _ => fun
  | [d1, d2] => { results := [.lit (.bool false)], args := [d1, d2] }
  | _ => none }
def FnExactBridgesOfWrongFalsely : Prop := fnExactBridgesOfRow.holds Try.pinned (OpenSpec.ofChange fnExactBridgesOfWrong)

/- THE SECOND FORM. 'bulk': how many values and letters a reading holds, each counted each time it is reached (what is shared counts as often as it is met; a slice's spare places count too). A statement '..UptoSaid' is the law's where the arguments, and the package variables that the reading takes, are together of bulk at most 1048576: NARROWER than '..Said'. Prove '..Said' where nothing that the law and all that it calls make is longer than what came in: it says more and counts as full. Else prove '..UptoSaid'. A law counts once. -/
mutual
def uptoBulk {H : Type} : DataW H → Nat
  | .lit (.string bytes) => bytes.length + 1
  | .lit _ => 1
  | .nil => 1
  | .ptr d => uptoBulk d + 1
  | .slice elems spare => uptoBulkAll elems + uptoBulkAll spare + 1
  | .agg parts => uptoBulkAll parts + 1
  | .iface _ d => uptoBulk d + 1
  | .map entries => uptoBulkEntries entries + 1
  | .held _ => 1
def uptoBulkAll {H : Type} : List (DataW H) → Nat
  | [] => 0
  | d :: r => uptoBulk d + uptoBulkAll r
def uptoBulkEntries {H : Type} : List (Lit × DataW H) → Nat
  | [] => 0
  | x :: r => uptoBulkEntry x + uptoBulkEntries r
def uptoBulkEntry {H : Type} : Lit × DataW H → Nat
  | (.string bytes, d) => bytes.length + uptoBulk d + 1
  | (_, d) => uptoBulk d + 1
 end
def uptoSmall : (H : Type) → List (DataW H) → Bool := fun _ ds => decide (uptoBulkAll ds ≤ 1048576)
def OpenSpec.upto (s : _root_.Go.ChangeSpec) : _root_.Go.OpenSpec := { _root_.Go.OpenSpec.ofChange s with cond := some uptoSmall }

/-- 'laws.FnExactIsJoined', WHERE WHAT IT READS IS OF BULK AT MOST 1048576: true; the input reads as it did. -/
def fnExactIsJoinedUptoRow : OpenClaim := { program := "ytibjapfaljeclaa", sum := "4b7d24280324abca4d2fa7c84812fde30a000a4cf3deaeeeaa9e70f0d45cb890", func := "loop.example/g01316/laws.FnExactIsJoined", spec := "fnExactIsJoined", apart := false, narrowed := true }
def FnExactIsJoinedUptoSaid : Prop := fnExactIsJoinedUptoRow.holds Try.pinned (OpenSpec.upto fnExactIsJoinedSpec)

/-- 'laws.FnExactFirstSquare', WHERE WHAT IT READS IS OF BULK AT MOST 1048576: true; the input reads as it did. -/
def fnExactFirstSquareUptoRow : OpenClaim := { program := "ytibjapfaljeclaa", sum := "4b7d24280324abca4d2fa7c84812fde30a000a4cf3deaeeeaa9e70f0d45cb890", func := "loop.example/g01316/laws.FnExactFirstSquare", spec := "fnExactFirstSquare", apart := false, narrowed := true }
def FnExactFirstSquareUptoSaid : Prop := fnExactFirstSquareUptoRow.holds Try.pinned (OpenSpec.upto fnExactFirstSquareSpec)

/-- 'laws.FnExactCountSquares', WHERE WHAT IT READS IS OF BULK AT MOST 1048576: true; the input reads as it did. -/
def fnExactCountSquaresUptoRow : OpenClaim := { program := "ytibjapfaljeclaa", sum := "4b7d24280324abca4d2fa7c84812fde30a000a4cf3deaeeeaa9e70f0d45cb890", func := "loop.example/g01316/laws.FnExactCountSquares", spec := "fnExactCountSquares", apart := false, narrowed := true }
def FnExactCountSquaresUptoSaid : Prop := fnExactCountSquaresUptoRow.holds Try.pinned (OpenSpec.upto fnExactCountSquaresSpec)

/-- 'laws.FnExactFewestInNet', WHERE WHAT IT READS IS OF BULK AT MOST 1048576: true; the input reads as it did. -/
def fnExactFewestInNetUptoRow : OpenClaim := { program := "ytibjapfaljeclaa", sum := "4b7d24280324abca4d2fa7c84812fde30a000a4cf3deaeeeaa9e70f0d45cb890", func := "loop.example/g01316/laws.FnExactFewestInNet", spec := "fnExactFewestInNet", apart := false, narrowed := true }
def FnExactFewestInNetUptoSaid : Prop := fnExactFewestInNetUptoRow.holds Try.pinned (OpenSpec.upto fnExactFewestInNetSpec)

/-- 'laws.FnExactDistanceInNet', WHERE WHAT IT READS IS OF BULK AT MOST 1048576: true; the input reads as it did. -/
def fnExactDistanceInNetUptoRow : OpenClaim := { program := "ytibjapfaljeclaa", sum := "4b7d24280324abca4d2fa7c84812fde30a000a4cf3deaeeeaa9e70f0d45cb890", func := "loop.example/g01316/laws.FnExactDistanceInNet", spec := "fnExactDistanceInNet", apart := false, narrowed := true }
def FnExactDistanceInNetUptoSaid : Prop := fnExactDistanceInNetUptoRow.holds Try.pinned (OpenSpec.upto fnExactDistanceInNetSpec)

/-- 'laws.FnExactFarthestInNet', WHERE WHAT IT READS IS OF BULK AT MOST 1048576: true; the input reads as it did. -/
def fnExactFarthestInNetUptoRow : OpenClaim := { program := "ytibjapfaljeclaa", sum := "4b7d24280324abca4d2fa7c84812fde30a000a4cf3deaeeeaa9e70f0d45cb890", func := "loop.example/g01316/laws.FnExactFarthestInNet", spec := "fnExactFarthestInNet", apart := false, narrowed := true }
def FnExactFarthestInNetUptoSaid : Prop := fnExactFarthestInNetUptoRow.holds Try.pinned (OpenSpec.upto fnExactFarthestInNetSpec)

/-- 'laws.FnExactBridgesOf', WHERE WHAT IT READS IS OF BULK AT MOST 1048576: true; the input reads as it did. -/
def fnExactBridgesOfUptoRow : OpenClaim := { program := "ytibjapfaljeclaa", sum := "4b7d24280324abca4d2fa7c84812fde30a000a4cf3deaeeeaa9e70f0d45cb890", func := "loop.example/g01316/laws.FnExactBridgesOf", spec := "fnExactBridgesOf", apart := false, narrowed := true }
def FnExactBridgesOfUptoSaid : Prop := fnExactBridgesOfUptoRow.holds Try.pinned (OpenSpec.upto fnExactBridgesOfSpec)

end Rows
end Go.Proofs.Ytibjapfaljeclaa
