/-
  No cell of these rows narrows 'for every input' (looked for: loops, veiled, ifaces, maps, wideKeys, modest, calm, conditions, laid).
  DERIVED. THE GIVEN ROWS OF THIS SEAT. 8 by the template 'for every input the law returns true; each argument reads behind the call as it read before'; 0 by the template 'total and deterministic' (their statements: YtejmlhhblckddaaTotals.lean).
  GIVEN WITH THE SEED: the statements are not yours to turn. If you find one false, say at which input.
  Laid BY PROGRAM, IN A SANDBOX (cutbox-rows.mjs): the forced cells as the released guide's own fill.sh prints them over the translation e1444754874c3e8e… (all of the seat's roots in one cut). By AI agents, Wed Nov 11 2026. No macro, syntax, notation, axiom, sorry.
-/
import Derived.Test.YtejmlhhblckddaaChecked
import GoSem.Claim
import GoSem.ClaimJoined
import GoSem.ClaimMapViews
import Derived.JoinedTies
import Derived.KernelRfl
namespace Go.Proofs.Ytejmlhhblckddaa
/- THE CELL 'sum', in the pinned program and in every row, IS THE sha256 OF THE DUMP (.gsa) THAT YtejmlhhblckddaaProg.lean LOADS. Nothing in Lean hashes anything: it is a label: what it is worth is what the hold of that sum in a sandbox is worth. -/
noncomputable def Try.pinned : Pinned := { name := "ytejmlhhblckddaa", sum := "e1444754874c3e8eb9fbb12da67129009593c8cea5668751e2616929173a5c2f", checked := Try.checked }
namespace Rows
def none {H : Type} : Left H := { results := [], args := [] }

/-- 'laws.FnExactAreTests': WHATEVER THE INPUT: true; the input reads as it did. -/
def fnExactAreTestsSpec : ChangeSpec := { name := "fnExactAreTests", fn := fun _ => fun
  | [d1, d2] => { results := [.lit (.bool true)], args := [d1, d2] }
  | _ => none }
def fnExactAreTestsRow : OpenClaim := { program := "ytejmlhhblckddaa", sum := "e1444754874c3e8eb9fbb12da67129009593c8cea5668751e2616929173a5c2f", func := "loop.example/g01316/laws.FnExactAreTests", spec := "fnExactAreTests", apart := false }
def FnExactAreTestsSaid : Prop := fnExactAreTestsRow.holds Try.pinned (OpenSpec.ofChange fnExactAreTestsSpec)

/-- ITS FALSE NEIGHBOUR: 'it returns false'. Refute it at one input. -/
def fnExactAreTestsWrong : ChangeSpec := { name := "fnExactAreTests", fn := fun _ => fun
  | [d1, d2] => { results := [.lit (.bool false)], args := [d1, d2] }
  | _ => none }
def FnExactAreTestsWrongFalsely : Prop := fnExactAreTestsRow.holds Try.pinned (OpenSpec.ofChange fnExactAreTestsWrong)

/-- 'laws.FnExactResultsOf': WHATEVER THE INPUT: true; the input reads as it did. -/
def fnExactResultsOfSpec : ChangeSpec := { name := "fnExactResultsOf", fn := fun _ => fun
  | [d1, d2, d3] => { results := [.lit (.bool true)], args := [d1, d2, d3] }
  | _ => none }
def fnExactResultsOfRow : OpenClaim := { program := "ytejmlhhblckddaa", sum := "e1444754874c3e8eb9fbb12da67129009593c8cea5668751e2616929173a5c2f", func := "loop.example/g01316/laws.FnExactResultsOf", spec := "fnExactResultsOf", unfollowed := true, recurses := true, apart := false }
def FnExactResultsOfSaid : Prop := fnExactResultsOfRow.holds Try.pinned (OpenSpec.ofChange fnExactResultsOfSpec)

/-- ITS FALSE NEIGHBOUR: 'it returns false'. Refute it at one input. -/
def fnExactResultsOfWrong : ChangeSpec := { name := "fnExactResultsOf", fn := fun _ => fun
  | [d1, d2, d3] => { results := [.lit (.bool false)], args := [d1, d2, d3] }
  | _ => none }
def FnExactResultsOfWrongFalsely : Prop := fnExactResultsOfRow.holds Try.pinned (OpenSpec.ofChange fnExactResultsOfWrong)

/-- 'laws.FnExactSingleTests': WHATEVER THE INPUT: true; the input reads as it did. -/
def fnExactSingleTestsSpec : ChangeSpec := { name := "fnExactSingleTests", fn := fun _ => fun
  | [d] => { results := [.lit (.bool true)], args := [d] }
  | _ => none }
def fnExactSingleTestsRow : OpenClaim := { program := "ytejmlhhblckddaa", sum := "e1444754874c3e8eb9fbb12da67129009593c8cea5668751e2616929173a5c2f", func := "loop.example/g01316/laws.FnExactSingleTests", spec := "fnExactSingleTests", apart := false }
def FnExactSingleTestsSaid : Prop := fnExactSingleTestsRow.holds Try.pinned (OpenSpec.ofChange fnExactSingleTestsSpec)

/-- ITS FALSE NEIGHBOUR: 'it returns false'. Refute it at one input. -/
def fnExactSingleTestsWrong : ChangeSpec := { name := "fnExactSingleTests", fn := fun _ => fun
  | [d] => { results := [.lit (.bool false)], args := [d] }
  | _ => none }
def FnExactSingleTestsWrongFalsely : Prop := fnExactSingleTestsRow.holds Try.pinned (OpenSpec.ofChange fnExactSingleTestsWrong)

/-- 'laws.FnExactBinaryTests': WHATEVER THE INPUT: true; the input reads as it did. -/
def fnExactBinaryTestsSpec : ChangeSpec := { name := "fnExactBinaryTests", fn := fun _ => fun
  | [d] => { results := [.lit (.bool true)], args := [d] }
  | _ => none }
def fnExactBinaryTestsRow : OpenClaim := { program := "ytejmlhhblckddaa", sum := "e1444754874c3e8eb9fbb12da67129009593c8cea5668751e2616929173a5c2f", func := "loop.example/g01316/laws.FnExactBinaryTests", spec := "fnExactBinaryTests", apart := false }
def FnExactBinaryTestsSaid : Prop := fnExactBinaryTestsRow.holds Try.pinned (OpenSpec.ofChange fnExactBinaryTestsSpec)

/-- ITS FALSE NEIGHBOUR: 'it returns false'. Refute it at one input. -/
def fnExactBinaryTestsWrong : ChangeSpec := { name := "fnExactBinaryTests", fn := fun _ => fun
  | [d] => { results := [.lit (.bool false)], args := [d] }
  | _ => none }
def FnExactBinaryTestsWrongFalsely : Prop := fnExactBinaryTestsRow.holds Try.pinned (OpenSpec.ofChange fnExactBinaryTestsWrong)

/-- 'laws.FnExactFewestTests': WHATEVER THE INPUT: true; the input reads as it did. -/
def fnExactFewestTestsSpec : ChangeSpec := { name := "fnExactFewestTests", fn := fun _ => fun
  | [d] => { results := [.lit (.bool true)], args := [d] }
  | _ => none }
def fnExactFewestTestsRow : OpenClaim := { program := "ytejmlhhblckddaa", sum := "e1444754874c3e8eb9fbb12da67129009593c8cea5668751e2616929173a5c2f", func := "loop.example/g01316/laws.FnExactFewestTests", spec := "fnExactFewestTests", apart := false }
def FnExactFewestTestsSaid : Prop := fnExactFewestTestsRow.holds Try.pinned (OpenSpec.ofChange fnExactFewestTestsSpec)

/-- ITS FALSE NEIGHBOUR: 'it returns false'. Refute it at one input. -/
def fnExactFewestTestsWrong : ChangeSpec := { name := "fnExactFewestTests", fn := fun _ => fun
  | [d] => { results := [.lit (.bool false)], args := [d] }
  | _ => none }
def FnExactFewestTestsWrongFalsely : Prop := fnExactFewestTestsRow.holds Try.pinned (OpenSpec.ofChange fnExactFewestTestsWrong)

/-- 'laws.FnExactSuspectsOf': WHATEVER THE INPUT: true; the input reads as it did. -/
def fnExactSuspectsOfSpec : ChangeSpec := { name := "fnExactSuspectsOf", fn := fun _ => fun
  | [d1, d2, d3] => { results := [.lit (.bool true)], args := [d1, d2, d3] }
  | _ => none }
def fnExactSuspectsOfRow : OpenClaim := { program := "ytejmlhhblckddaa", sum := "e1444754874c3e8eb9fbb12da67129009593c8cea5668751e2616929173a5c2f", func := "loop.example/g01316/laws.FnExactSuspectsOf", spec := "fnExactSuspectsOf", unfollowed := true, recurses := true, apart := false }
def FnExactSuspectsOfSaid : Prop := fnExactSuspectsOfRow.holds Try.pinned (OpenSpec.ofChange fnExactSuspectsOfSpec)

/-- ITS FALSE NEIGHBOUR: 'it returns false'. Refute it at one input. -/
def fnExactSuspectsOfWrong : ChangeSpec := { name := "fnExactSuspectsOf", fn := fun _ => fun
  | [d1, d2, d3] => { results := [.lit (.bool false)], args := [d1, d2, d3] }
  | _ => none }
def FnExactSuspectsOfWrongFalsely : Prop := fnExactSuspectsOfRow.holds Try.pinned (OpenSpec.ofChange fnExactSuspectsOfWrong)

/-- 'laws.FnExactHalvesSearch': WHATEVER THE INPUT: true; the input reads as it did. -/
def fnExactHalvesSearchSpec : ChangeSpec := { name := "fnExactHalvesSearch", fn := fun _ => fun
  | [d1, d2] => { results := [.lit (.bool true)], args := [d1, d2] }
  | _ => none }
def fnExactHalvesSearchRow : OpenClaim := { program := "ytejmlhhblckddaa", sum := "e1444754874c3e8eb9fbb12da67129009593c8cea5668751e2616929173a5c2f", func := "loop.example/g01316/laws.FnExactHalvesSearch", spec := "fnExactHalvesSearch", recurses := true, apart := false }
def FnExactHalvesSearchSaid : Prop := fnExactHalvesSearchRow.holds Try.pinned (OpenSpec.ofChange fnExactHalvesSearchSpec)

/-- ITS FALSE NEIGHBOUR: 'it returns false'. Refute it at one input. -/
def fnExactHalvesSearchWrong : ChangeSpec := { name := "fnExactHalvesSearch", fn := fun _ => fun
  | [d1, d2] => { results := [.lit (.bool false)], args := [d1, d2] }
  | _ => none }
def FnExactHalvesSearchWrongFalsely : Prop := fnExactHalvesSearchRow.holds Try.pinned (OpenSpec.ofChange fnExactHalvesSearchWrong)

/-- 'laws.FnExactJoinTests': WHATEVER THE INPUT: true; the input reads as it did. -/
def fnExactJoinTestsSpec : ChangeSpec := { name := "fnExactJoinTests", fn := fun _ => fun
  | [d1, d2, d3] => { results := [.lit (.bool true)], args := [d1, d2, d3] }
  | _ => none }
def fnExactJoinTestsRow : OpenClaim := { program := "ytejmlhhblckddaa", sum := "e1444754874c3e8eb9fbb12da67129009593c8cea5668751e2616929173a5c2f", func := "loop.example/g01316/laws.FnExactJoinTests", spec := "fnExactJoinTests", apart := false }
def FnExactJoinTestsSaid : Prop := fnExactJoinTestsRow.holds Try.pinned (OpenSpec.ofChange fnExactJoinTestsSpec)

/-- ITS FALSE NEIGHBOUR: 'it returns false'. Refute it at one input. -/
def fnExactJoinTestsWrong : ChangeSpec := { name := "fnExactJoinTests", fn := fun _ => fun
  | [d1, d2, d3] => { results := [.lit (.bool false)], args := [d1, d2, d3] }
  | _ => none }
def FnExactJoinTestsWrongFalsely : Prop := fnExactJoinTestsRow.holds Try.pinned (OpenSpec.ofChange fnExactJoinTestsWrong)

/- THE SECOND FORM. 'bulk': how many values and letters a reading holds, each counted each time it is reached (what is shared counts as often as it is met; a slice's spare places count too). A statement '..UptoSaid' is the law's where the arguments, and the package variables that the reading takes, are together of bulk at most 1048576: NARROWER than '..Said'. Prove '..Said' where nothing that the law and all that it calls make is longer than what came in: it says more and counts as full. Else prove '..UptoSaid'. A law counts once. -/
mutual
def uptoBulk {H : Type} : DataW H → Nat
  | .lit (.string bytes) => bytes.length + 1
  | .lit _ => 1
  | .nil => 1
  | .ptr d => uptoBulk d + 1
  | .slice elems spare => uptoBulkAll elems + uptoBulkAll spare + 1
  | .agg parts => uptoBulkAll parts + 1
  | .iface _ d => uptoBulk d + 1
  | .map entries => uptoBulkEntries entries + 1
  | .held _ => 1
def uptoBulkAll {H : Type} : List (DataW H) → Nat
  | [] => 0
  | d :: r => uptoBulk d + uptoBulkAll r
def uptoBulkEntries {H : Type} : List (Lit × DataW H) → Nat
  | [] => 0
  | x :: r => uptoBulkEntry x + uptoBulkEntries r
def uptoBulkEntry {H : Type} : Lit × DataW H → Nat
  | (.string bytes, d) => bytes.length + uptoBulk d + 1
  | (_, d) => uptoBulk d + 1
 end
def uptoSmall : (H : Type) → List (DataW H) → Bool := fun _ ds => decide (uptoBulkAll ds ≤ 1048576)
def OpenSpec.upto (s : _root_.Go.ChangeSpec) : _root_.Go.OpenSpec := { _root_.Go.OpenSpec.ofChange s with cond := some uptoSmall }

/-- 'laws.FnExactAreTests', WHERE WHAT IT READS IS OF BULK AT MOST 1048576: true; the input reads as it did. -/
def fnExactAreTestsUptoRow : OpenClaim := { program := "ytejmlhhblckddaa", sum := "e1444754874c3e8eb9fbb12da67129009593c8cea5668751e2616929173a5c2f", func := "loop.example/g01316/laws.FnExactAreTests", spec := "fnExactAreTests", apart := false, narrowed := true }
def FnExactAreTestsUptoSaid : Prop := fnExactAreTestsUptoRow.holds Try.pinned (OpenSpec.upto fnExactAreTestsSpec)

/-- 'laws.FnExactResultsOf', WHERE WHAT IT READS IS OF BULK AT MOST 1048576: true; the input reads as it did. -/
def fnExactResultsOfUptoRow : OpenClaim := { program := "ytejmlhhblckddaa", sum := "e1444754874c3e8eb9fbb12da67129009593c8cea5668751e2616929173a5c2f", func := "loop.example/g01316/laws.FnExactResultsOf", spec := "fnExactResultsOf", unfollowed := true, recurses := true, apart := false, narrowed := true }
def FnExactResultsOfUptoSaid : Prop := fnExactResultsOfUptoRow.holds Try.pinned (OpenSpec.upto fnExactResultsOfSpec)

/-- 'laws.FnExactSingleTests', WHERE WHAT IT READS IS OF BULK AT MOST 1048576: true; the input reads as it did. -/
def fnExactSingleTestsUptoRow : OpenClaim := { program := "ytejmlhhblckddaa", sum := "e1444754874c3e8eb9fbb12da67129009593c8cea5668751e2616929173a5c2f", func := "loop.example/g01316/laws.FnExactSingleTests", spec := "fnExactSingleTests", apart := false, narrowed := true }
def FnExactSingleTestsUptoSaid : Prop := fnExactSingleTestsUptoRow.holds Try.pinned (OpenSpec.upto fnExactSingleTestsSpec)

/-- 'laws.FnExactBinaryTests', WHERE WHAT IT READS IS OF BULK AT MOST 1048576: true; the input reads as it did. -/
def fnExactBinaryTestsUptoRow : OpenClaim := { program := "ytejmlhhblckddaa", sum := "e1444754874c3e8eb9fbb12da67129009593c8cea5668751e2616929173a5c2f", func := "loop.example/g01316/laws.FnExactBinaryTests", spec := "fnExactBinaryTests", apart := false, narrowed := true }
def FnExactBinaryTestsUptoSaid : Prop := fnExactBinaryTestsUptoRow.holds Try.pinned (OpenSpec.upto fnExactBinaryTestsSpec)

/-- 'laws.FnExactFewestTests', WHERE WHAT IT READS IS OF BULK AT MOST 1048576: true; the input reads as it did. -/
def fnExactFewestTestsUptoRow : OpenClaim := { program := "ytejmlhhblckddaa", sum := "e1444754874c3e8eb9fbb12da67129009593c8cea5668751e2616929173a5c2f", func := "loop.example/g01316/laws.FnExactFewestTests", spec := "fnExactFewestTests", apart := false, narrowed := true }
def FnExactFewestTestsUptoSaid : Prop := fnExactFewestTestsUptoRow.holds Try.pinned (OpenSpec.upto fnExactFewestTestsSpec)

/-- 'laws.FnExactSuspectsOf', WHERE WHAT IT READS IS OF BULK AT MOST 1048576: true; the input reads as it did. -/
def fnExactSuspectsOfUptoRow : OpenClaim := { program := "ytejmlhhblckddaa", sum := "e1444754874c3e8eb9fbb12da67129009593c8cea5668751e2616929173a5c2f", func := "loop.example/g01316/laws.FnExactSuspectsOf", spec := "fnExactSuspectsOf", unfollowed := true, recurses := true, apart := false, narrowed := true }
def FnExactSuspectsOfUptoSaid : Prop := fnExactSuspectsOfUptoRow.holds Try.pinned (OpenSpec.upto fnExactSuspectsOfSpec)

/-- 'laws.FnExactHalvesSearch', WHERE WHAT IT READS IS OF BULK AT MOST 1048576: true; the input reads as it did. -/
def fnExactHalvesSearchUptoRow : OpenClaim := { program := "ytejmlhhblckddaa", sum := "e1444754874c3e8eb9fbb12da67129009593c8cea5668751e2616929173a5c2f", func := "loop.example/g01316/laws.FnExactHalvesSearch", spec := "fnExactHalvesSearch", recurses := true, apart := false, narrowed := true }
def FnExactHalvesSearchUptoSaid : Prop := fnExactHalvesSearchUptoRow.holds Try.pinned (OpenSpec.upto fnExactHalvesSearchSpec)

/-- 'laws.FnExactJoinTests', WHERE WHAT IT READS IS OF BULK AT MOST 1048576: true; the input reads as it did. -/
def fnExactJoinTestsUptoRow : OpenClaim := { program := "ytejmlhhblckddaa", sum := "e1444754874c3e8eb9fbb12da67129009593c8cea5668751e2616929173a5c2f", func := "loop.example/g01316/laws.FnExactJoinTests", spec := "fnExactJoinTests", apart := false, narrowed := true }
def FnExactJoinTestsUptoSaid : Prop := fnExactJoinTestsUptoRow.holds Try.pinned (OpenSpec.upto fnExactJoinTestsSpec)

end Rows
end Go.Proofs.Ytejmlhhblckddaa
