/-
  No cell of these rows narrows 'for every input' (looked for: loops, veiled, ifaces, maps, wideKeys, modest, calm, conditions, laid).
  DERIVED. THE GIVEN ROWS OF THIS SEAT. 4 by the template 'for every input the law returns true; each argument reads behind the call as it read before'; 0 by the template 'total and deterministic' (their statements: YtnngdoiempmkkaaTotals.lean).
  GIVEN WITH THE SEED: the statements are not yours to turn. If you find one false, say at which input.
  Laid BY PROGRAM, IN A SANDBOX (cutbox-rows.mjs): the forced cells as the released guide's own fill.sh prints them over the translation 2aa0a11f9e528bf1… (all of the seat's roots in one cut). By AI agents, Wed Nov 11 2026. No macro, syntax, notation, axiom, sorry.
-/
import Derived.Test.YtnngdoiempmkkaaChecked
import GoSem.Claim
import GoSem.ClaimJoined
import GoSem.ClaimMapViews
import Derived.JoinedTies
import Derived.KernelRfl
namespace Go.Proofs.Ytnngdoiempmkkaa
/- THE CELL 'sum', in the pinned program and in every row, IS THE sha256 OF THE DUMP (.gsa) THAT YtnngdoiempmkkaaProg.lean LOADS. Nothing in Lean hashes anything: it is a label: what it is worth is what the hold of that sum in a sandbox is worth. -/
noncomputable def Try.pinned : Pinned := { name := "ytnngdoiempmkkaa", sum := "2aa0a11f9e528bf18ee8777ed263eb5ab0ad8c667fd64ef46fee971637127bbd", checked := Try.checked }
namespace Rows
def none {H : Type} : Left H := { results := [], args := [] }

/-- 'laws.FnExactAreRounds': WHATEVER THE INPUT: true; the input reads as it did. -/
def fnExactAreRoundsSpec : ChangeSpec := { name := "fnExactAreRounds", fn := fun _ => fun
  | [d1, d2] => { results := [.lit (.bool true)], args := [d1, d2] }
  | _ => none }
def fnExactAreRoundsRow : OpenClaim := { program := "ytnngdoiempmkkaa", sum := "2aa0a11f9e528bf18ee8777ed263eb5ab0ad8c667fd64ef46fee971637127bbd", func := "loop.example/g01316/laws.FnExactAreRounds", spec := "fnExactAreRounds", apart := false }
def FnExactAreRoundsSaid : Prop := fnExactAreRoundsRow.holds Try.pinned (OpenSpec.ofChange fnExactAreRoundsSpec)

/-- ITS FALSE NEIGHBOUR: 'it returns false'. Refute it at one input. -/
def fnExactAreRoundsWrong : ChangeSpec := { name := "fnExactAreRounds", fn := fun _ => fun
  | [d1, d2] => { results := [.lit (.bool false)], args := [d1, d2] }
  | _ => none }
def FnExactAreRoundsWrongFalsely : Prop := fnExactAreRoundsRow.holds Try.pinned (OpenSpec.ofChange fnExactAreRoundsWrong)

/-- 'laws.FnExactCallsOfRounds': WHATEVER THE INPUT: true; the input reads as it did. -/
def fnExactCallsOfRoundsSpec : ChangeSpec := { name := "fnExactCallsOfRounds", fn := fun _ => fun
  | [d1, d2] => { results := [.lit (.bool true)], args := [d1, d2] }
  | _ => none }
def fnExactCallsOfRoundsRow : OpenClaim := { program := "ytnngdoiempmkkaa", sum := "2aa0a11f9e528bf18ee8777ed263eb5ab0ad8c667fd64ef46fee971637127bbd", func := "loop.example/g01316/laws.FnExactCallsOfRounds", spec := "fnExactCallsOfRounds", apart := false }
def FnExactCallsOfRoundsSaid : Prop := fnExactCallsOfRoundsRow.holds Try.pinned (OpenSpec.ofChange fnExactCallsOfRoundsSpec)

/-- ITS FALSE NEIGHBOUR: 'it returns false'. Refute it at one input. -/
def fnExactCallsOfRoundsWrong : ChangeSpec := { name := "fnExactCallsOfRounds", fn := fun _ => fun
  | [d1, d2] => { results := [.lit (.bool false)], args := [d1, d2] }
  | _ => none }
def FnExactCallsOfRoundsWrongFalsely : Prop := fnExactCallsOfRoundsRow.holds Try.pinned (OpenSpec.ofChange fnExactCallsOfRoundsWrong)

/-- 'laws.FnExactIntoRounds': WHATEVER THE INPUT: true; the input reads as it did. -/
def fnExactIntoRoundsSpec : ChangeSpec := { name := "fnExactIntoRounds", fn := fun _ => fun
  | [d1, d2] => { results := [.lit (.bool true)], args := [d1, d2] }
  | _ => none }
def fnExactIntoRoundsRow : OpenClaim := { program := "ytnngdoiempmkkaa", sum := "2aa0a11f9e528bf18ee8777ed263eb5ab0ad8c667fd64ef46fee971637127bbd", func := "loop.example/g01316/laws.FnExactIntoRounds", spec := "fnExactIntoRounds", unfollowed := true, recurses := true, apart := false }
def FnExactIntoRoundsSaid : Prop := fnExactIntoRoundsRow.holds Try.pinned (OpenSpec.ofChange fnExactIntoRoundsSpec)

/-- ITS FALSE NEIGHBOUR: 'it returns false'. Refute it at one input. -/
def fnExactIntoRoundsWrong : ChangeSpec := { name := "fnExactIntoRounds", fn := fun _ => fun
  | [d1, d2] => { results := [.lit (.bool false)], args := [d1, d2] }
  | _ => none }
def FnExactIntoRoundsWrongFalsely : Prop := fnExactIntoRoundsRow.holds Try.pinned (OpenSpec.ofChange fnExactIntoRoundsWrong)

/-- 'laws.FnExactDoublingRounds': WHATEVER THE INPUT: true; the input reads as it did. -/
def fnExactDoublingRoundsSpec : ChangeSpec := { name := "fnExactDoublingRounds", fn := fun _ => fun
  | [d] => { results := [.lit (.bool true)], args := [d] }
  | _ => none }
def fnExactDoublingRoundsRow : OpenClaim := { program := "ytnngdoiempmkkaa", sum := "2aa0a11f9e528bf18ee8777ed263eb5ab0ad8c667fd64ef46fee971637127bbd", func := "loop.example/g01316/laws.FnExactDoublingRounds", spec := "fnExactDoublingRounds", unfollowed := true, recurses := true, apart := false }
def FnExactDoublingRoundsSaid : Prop := fnExactDoublingRoundsRow.holds Try.pinned (OpenSpec.ofChange fnExactDoublingRoundsSpec)

/-- ITS FALSE NEIGHBOUR: 'it returns false'. Refute it at one input. -/
def fnExactDoublingRoundsWrong : ChangeSpec := { name := "fnExactDoublingRounds", fn := fun _ => fun
  | [d] => { results := [.lit (.bool false)], args := [d] }
  | _ => none }
def FnExactDoublingRoundsWrongFalsely : Prop := fnExactDoublingRoundsRow.holds Try.pinned (OpenSpec.ofChange fnExactDoublingRoundsWrong)

/- THE SECOND FORM. 'bulk': how many values and letters a reading holds, each counted each time it is reached (what is shared counts as often as it is met; a slice's spare places count too). A statement '..UptoSaid' is the law's where the arguments, and the package variables that the reading takes, are together of bulk at most 1048576: NARROWER than '..Said'. Prove '..Said' where nothing that the law and all that it calls make is longer than what came in: it says more and counts as full. Else prove '..UptoSaid'. A law counts once. -/
mutual
def uptoBulk {H : Type} : DataW H → Nat
  | .lit (.string bytes) => bytes.length + 1
  | .lit _ => 1
  | .nil => 1
  | .ptr d => uptoBulk d + 1
  | .slice elems spare => uptoBulkAll elems + uptoBulkAll spare + 1
  | .agg parts => uptoBulkAll parts + 1
  | .iface _ d => uptoBulk d + 1
  | .map entries => uptoBulkEntries entries + 1
  | .held _ => 1
def uptoBulkAll {H : Type} : List (DataW H) → Nat
  | [] => 0
  | d :: r => uptoBulk d + uptoBulkAll r
def uptoBulkEntries {H : Type} : List (Lit × DataW H) → Nat
  | [] => 0
  | x :: r => uptoBulkEntry x + uptoBulkEntries r
def uptoBulkEntry {H : Type} : Lit × DataW H → Nat
  | (.string bytes, d) => bytes.length + uptoBulk d + 1
  | (_, d) => uptoBulk d + 1
 end
def uptoSmall : (H : Type) → List (DataW H) → Bool := fun _ ds => decide (uptoBulkAll ds ≤ 1048576)
def OpenSpec.upto (s : _root_.Go.ChangeSpec) : _root_.Go.OpenSpec := { _root_.Go.OpenSpec.ofChange s with cond := some uptoSmall }

/-- 'laws.FnExactAreRounds', WHERE WHAT IT READS IS OF BULK AT MOST 1048576: true; the input reads as it did. -/
def fnExactAreRoundsUptoRow : OpenClaim := { program := "ytnngdoiempmkkaa", sum := "2aa0a11f9e528bf18ee8777ed263eb5ab0ad8c667fd64ef46fee971637127bbd", func := "loop.example/g01316/laws.FnExactAreRounds", spec := "fnExactAreRounds", apart := false, narrowed := true }
def FnExactAreRoundsUptoSaid : Prop := fnExactAreRoundsUptoRow.holds Try.pinned (OpenSpec.upto fnExactAreRoundsSpec)

/-- 'laws.FnExactCallsOfRounds', WHERE WHAT IT READS IS OF BULK AT MOST 1048576: true; the input reads as it did. -/
def fnExactCallsOfRoundsUptoRow : OpenClaim := { program := "ytnngdoiempmkkaa", sum := "2aa0a11f9e528bf18ee8777ed263eb5ab0ad8c667fd64ef46fee971637127bbd", func := "loop.example/g01316/laws.FnExactCallsOfRounds", spec := "fnExactCallsOfRounds", apart := false, narrowed := true }
def FnExactCallsOfRoundsUptoSaid : Prop := fnExactCallsOfRoundsUptoRow.holds Try.pinned (OpenSpec.upto fnExactCallsOfRoundsSpec)

/-- 'laws.FnExactIntoRounds', WHERE WHAT IT READS IS OF BULK AT MOST 1048576: true; the input reads as it did. -/
def fnExactIntoRoundsUptoRow : OpenClaim := { program := "ytnngdoiempmkkaa", sum := "2aa0a11f9e528bf18ee8777ed263eb5ab0ad8c667fd64ef46fee971637127bbd", func := "loop.example/g01316/laws.FnExactIntoRounds", spec := "fnExactIntoRounds", unfollowed := true, recurses := true, apart := false, narrowed := true }
def FnExactIntoRoundsUptoSaid : Prop := fnExactIntoRoundsUptoRow.holds Try.pinned (OpenSpec.upto fnExactIntoRoundsSpec)

/-- 'laws.FnExactDoublingRounds', WHERE WHAT IT READS IS OF BULK AT MOST 1048576: true; the input reads as it did. -/
def fnExactDoublingRoundsUptoRow : OpenClaim := { program := "ytnngdoiempmkkaa", sum := "2aa0a11f9e528bf18ee8777ed263eb5ab0ad8c667fd64ef46fee971637127bbd", func := "loop.example/g01316/laws.FnExactDoublingRounds", spec := "fnExactDoublingRounds", unfollowed := true, recurses := true, apart := false, narrowed := true }
def FnExactDoublingRoundsUptoSaid : Prop := fnExactDoublingRoundsUptoRow.holds Try.pinned (OpenSpec.upto fnExactDoublingRoundsSpec)

end Rows
end Go.Proofs.Ytnngdoiempmkkaa
