/-
  No cell of these rows narrows 'for every input' (looked for: loops, veiled, ifaces, maps, wideKeys, modest, calm, conditions, laid).
  DERIVED. THE GIVEN ROWS OF THIS SEAT. 13 by the template 'for every input the law returns true; each argument reads behind the call as it read before'; 0 by the template 'total and deterministic' (their statements: YtghfkgbmmkcjhaaTotals.lean).
  GIVEN WITH THE SEED: the statements are not yours to turn. If you find one false, say at which input.
  Laid BY PROGRAM, IN A SANDBOX (cutbox-rows.mjs): the forced cells as the released guide's own fill.sh prints them over the translation 982c82684e589c30… (all of the seat's roots in one cut). By AI agents, Wed Nov 11 2026. No macro, syntax, notation, axiom, sorry.
-/
import Derived.Test.YtghfkgbmmkcjhaaChecked
import GoSem.Claim
import GoSem.ClaimJoined
import GoSem.ClaimMapViews
import Derived.JoinedTies
import Derived.KernelRfl
namespace Go.Proofs.Ytghfkgbmmkcjhaa
/- THE CELL 'sum', in the pinned program and in every row, IS THE sha256 OF THE DUMP (.gsa) THAT YtghfkgbmmkcjhaaProg.lean LOADS. Nothing in Lean hashes anything: it is a label: what it is worth is what the hold of that sum in a sandbox is worth. -/
noncomputable def Try.pinned : Pinned := { name := "ytghfkgbmmkcjhaa", sum := "982c82684e589c300ad8dad4a90108fa5e17c27b0545a83f9f16307c9d005b94", checked := Try.checked }
namespace Rows
def none {H : Type} : Left H := { results := [], args := [] }

/-- 'laws.FnExactInformedAt': WHATEVER THE INPUT: true; the input reads as it did. -/
def fnExactInformedAtSpec : ChangeSpec := { name := "fnExactInformedAt", fn := fun _ => fun
  | [d1, d2] => { results := [.lit (.bool true)], args := [d1, d2] }
  | _ => none }
def fnExactInformedAtRow : OpenClaim := { program := "ytghfkgbmmkcjhaa", sum := "982c82684e589c300ad8dad4a90108fa5e17c27b0545a83f9f16307c9d005b94", func := "loop.example/g01316/laws.FnExactInformedAt", spec := "fnExactInformedAt", apart := false }
def FnExactInformedAtSaid : Prop := fnExactInformedAtRow.holds Try.pinned (OpenSpec.ofChange fnExactInformedAtSpec)

/-- ITS FALSE NEIGHBOUR: 'it returns false'. Refute it at one input. -/
def fnExactInformedAtWrong : ChangeSpec := { name := "fnExactInformedAt", fn := fun _ => fun
  | [d1, d2] => { results := [.lit (.bool false)], args := [d1, d2] }
  | _ => none }
def FnExactInformedAtWrongFalsely : Prop := fnExactInformedAtRow.holds Try.pinned (OpenSpec.ofChange fnExactInformedAtWrong)

/-- 'laws.FnExactNewAt': WHATEVER THE INPUT: true; the input reads as it did. -/
def fnExactNewAtSpec : ChangeSpec := { name := "fnExactNewAt", fn := fun _ => fun
  | [d1, d2] => { results := [.lit (.bool true)], args := [d1, d2] }
  | _ => none }
def fnExactNewAtRow : OpenClaim := { program := "ytghfkgbmmkcjhaa", sum := "982c82684e589c300ad8dad4a90108fa5e17c27b0545a83f9f16307c9d005b94", func := "loop.example/g01316/laws.FnExactNewAt", spec := "fnExactNewAt", apart := false }
def FnExactNewAtSaid : Prop := fnExactNewAtRow.holds Try.pinned (OpenSpec.ofChange fnExactNewAtSpec)

/-- ITS FALSE NEIGHBOUR: 'it returns false'. Refute it at one input. -/
def fnExactNewAtWrong : ChangeSpec := { name := "fnExactNewAt", fn := fun _ => fun
  | [d1, d2] => { results := [.lit (.bool false)], args := [d1, d2] }
  | _ => none }
def FnExactNewAtWrongFalsely : Prop := fnExactNewAtRow.holds Try.pinned (OpenSpec.ofChange fnExactNewAtWrong)

/-- 'laws.FnExactMinutesFor': WHATEVER THE INPUT: true; the input reads as it did. -/
def fnExactMinutesForSpec : ChangeSpec := { name := "fnExactMinutesFor", fn := fun _ => fun
  | [d1, d2] => { results := [.lit (.bool true)], args := [d1, d2] }
  | _ => none }
def fnExactMinutesForRow : OpenClaim := { program := "ytghfkgbmmkcjhaa", sum := "982c82684e589c300ad8dad4a90108fa5e17c27b0545a83f9f16307c9d005b94", func := "loop.example/g01316/laws.FnExactMinutesFor", spec := "fnExactMinutesFor", apart := false }
def FnExactMinutesForSaid : Prop := fnExactMinutesForRow.holds Try.pinned (OpenSpec.ofChange fnExactMinutesForSpec)

/-- ITS FALSE NEIGHBOUR: 'it returns false'. Refute it at one input. -/
def fnExactMinutesForWrong : ChangeSpec := { name := "fnExactMinutesFor", fn := fun _ => fun
  | [d1, d2] => { results := [.lit (.bool false)], args := [d1, d2] }
  | _ => none }
def FnExactMinutesForWrongFalsely : Prop := fnExactMinutesForRow.holds Try.pinned (OpenSpec.ofChange fnExactMinutesForWrong)

/-- 'laws.FnExactGreatestDelay': WHATEVER THE INPUT: true; the input reads as it did. -/
def fnExactGreatestDelaySpec : ChangeSpec := { name := "fnExactGreatestDelay", fn := fun _ => fun
  | [d1, d2] => { results := [.lit (.bool true)], args := [d1, d2] }
  | _ => none }
def fnExactGreatestDelayRow : OpenClaim := { program := "ytghfkgbmmkcjhaa", sum := "982c82684e589c300ad8dad4a90108fa5e17c27b0545a83f9f16307c9d005b94", func := "loop.example/g01316/laws.FnExactGreatestDelay", spec := "fnExactGreatestDelay", apart := false }
def FnExactGreatestDelaySaid : Prop := fnExactGreatestDelayRow.holds Try.pinned (OpenSpec.ofChange fnExactGreatestDelaySpec)

/-- ITS FALSE NEIGHBOUR: 'it returns false'. Refute it at one input. -/
def fnExactGreatestDelayWrong : ChangeSpec := { name := "fnExactGreatestDelay", fn := fun _ => fun
  | [d1, d2] => { results := [.lit (.bool false)], args := [d1, d2] }
  | _ => none }
def FnExactGreatestDelayWrongFalsely : Prop := fnExactGreatestDelayRow.holds Try.pinned (OpenSpec.ofChange fnExactGreatestDelayWrong)

/-- 'laws.FnExactQuickSends': WHATEVER THE INPUT: true; the input reads as it did. -/
def fnExactQuickSendsSpec : ChangeSpec := { name := "fnExactQuickSends", fn := fun _ => fun
  | [d1, d2] => { results := [.lit (.bool true)], args := [d1, d2] }
  | _ => none }
def fnExactQuickSendsRow : OpenClaim := { program := "ytghfkgbmmkcjhaa", sum := "982c82684e589c300ad8dad4a90108fa5e17c27b0545a83f9f16307c9d005b94", func := "loop.example/g01316/laws.FnExactQuickSends", spec := "fnExactQuickSends", apart := false }
def FnExactQuickSendsSaid : Prop := fnExactQuickSendsRow.holds Try.pinned (OpenSpec.ofChange fnExactQuickSendsSpec)

/-- ITS FALSE NEIGHBOUR: 'it returns false'. Refute it at one input. -/
def fnExactQuickSendsWrong : ChangeSpec := { name := "fnExactQuickSends", fn := fun _ => fun
  | [d1, d2] => { results := [.lit (.bool false)], args := [d1, d2] }
  | _ => none }
def FnExactQuickSendsWrongFalsely : Prop := fnExactQuickSendsRow.holds Try.pinned (OpenSpec.ofChange fnExactQuickSendsWrong)

/-- 'laws.FnExactAreSends': WHATEVER THE INPUT: true; the input reads as it did. -/
def fnExactAreSendsSpec : ChangeSpec := { name := "fnExactAreSends", fn := fun _ => fun
  | [d1, d2, d3] => { results := [.lit (.bool true)], args := [d1, d2, d3] }
  | _ => none }
def fnExactAreSendsRow : OpenClaim := { program := "ytghfkgbmmkcjhaa", sum := "982c82684e589c300ad8dad4a90108fa5e17c27b0545a83f9f16307c9d005b94", func := "loop.example/g01316/laws.FnExactAreSends", spec := "fnExactAreSends", unfollowed := true, recurses := true, apart := false }
def FnExactAreSendsSaid : Prop := fnExactAreSendsRow.holds Try.pinned (OpenSpec.ofChange fnExactAreSendsSpec)

/-- ITS FALSE NEIGHBOUR: 'it returns false'. Refute it at one input. -/
def fnExactAreSendsWrong : ChangeSpec := { name := "fnExactAreSends", fn := fun _ => fun
  | [d1, d2, d3] => { results := [.lit (.bool false)], args := [d1, d2, d3] }
  | _ => none }
def FnExactAreSendsWrongFalsely : Prop := fnExactAreSendsRow.holds Try.pinned (OpenSpec.ofChange fnExactAreSendsWrong)

/-- 'laws.FnExactArrivalsOf': WHATEVER THE INPUT: true; the input reads as it did. -/
def fnExactArrivalsOfSpec : ChangeSpec := { name := "fnExactArrivalsOf", fn := fun _ => fun
  | [d1, d2, d3] => { results := [.lit (.bool true)], args := [d1, d2, d3] }
  | _ => none }
def fnExactArrivalsOfRow : OpenClaim := { program := "ytghfkgbmmkcjhaa", sum := "982c82684e589c300ad8dad4a90108fa5e17c27b0545a83f9f16307c9d005b94", func := "loop.example/g01316/laws.FnExactArrivalsOf", spec := "fnExactArrivalsOf", unfollowed := true, recurses := true, apart := false }
def FnExactArrivalsOfSaid : Prop := fnExactArrivalsOfRow.holds Try.pinned (OpenSpec.ofChange fnExactArrivalsOfSpec)

/-- ITS FALSE NEIGHBOUR: 'it returns false'. Refute it at one input. -/
def fnExactArrivalsOfWrong : ChangeSpec := { name := "fnExactArrivalsOf", fn := fun _ => fun
  | [d1, d2, d3] => { results := [.lit (.bool false)], args := [d1, d2, d3] }
  | _ => none }
def FnExactArrivalsOfWrongFalsely : Prop := fnExactArrivalsOfRow.holds Try.pinned (OpenSpec.ofChange fnExactArrivalsOfWrong)

/-- 'laws.FnExactLastArrival': WHATEVER THE INPUT: true; the input reads as it did. -/
def fnExactLastArrivalSpec : ChangeSpec := { name := "fnExactLastArrival", fn := fun _ => fun
  | [d1, d2, d3] => { results := [.lit (.bool true)], args := [d1, d2, d3] }
  | _ => none }
def fnExactLastArrivalRow : OpenClaim := { program := "ytghfkgbmmkcjhaa", sum := "982c82684e589c300ad8dad4a90108fa5e17c27b0545a83f9f16307c9d005b94", func := "loop.example/g01316/laws.FnExactLastArrival", spec := "fnExactLastArrival", unfollowed := true, recurses := true, apart := false }
def FnExactLastArrivalSaid : Prop := fnExactLastArrivalRow.holds Try.pinned (OpenSpec.ofChange fnExactLastArrivalSpec)

/-- ITS FALSE NEIGHBOUR: 'it returns false'. Refute it at one input. -/
def fnExactLastArrivalWrong : ChangeSpec := { name := "fnExactLastArrival", fn := fun _ => fun
  | [d1, d2, d3] => { results := [.lit (.bool false)], args := [d1, d2, d3] }
  | _ => none }
def FnExactLastArrivalWrongFalsely : Prop := fnExactLastArrivalRow.holds Try.pinned (OpenSpec.ofChange fnExactLastArrivalWrong)

/-- 'laws.FnExactLateBy': WHATEVER THE INPUT: true; the input reads as it did. -/
def fnExactLateBySpec : ChangeSpec := { name := "fnExactLateBy", fn := fun _ => fun
  | [d1, d2, d3] => { results := [.lit (.bool true)], args := [d1, d2, d3] }
  | _ => none }
def fnExactLateByRow : OpenClaim := { program := "ytghfkgbmmkcjhaa", sum := "982c82684e589c300ad8dad4a90108fa5e17c27b0545a83f9f16307c9d005b94", func := "loop.example/g01316/laws.FnExactLateBy", spec := "fnExactLateBy", unfollowed := true, recurses := true, apart := false }
def FnExactLateBySaid : Prop := fnExactLateByRow.holds Try.pinned (OpenSpec.ofChange fnExactLateBySpec)

/-- ITS FALSE NEIGHBOUR: 'it returns false'. Refute it at one input. -/
def fnExactLateByWrong : ChangeSpec := { name := "fnExactLateBy", fn := fun _ => fun
  | [d1, d2, d3] => { results := [.lit (.bool false)], args := [d1, d2, d3] }
  | _ => none }
def FnExactLateByWrongFalsely : Prop := fnExactLateByRow.holds Try.pinned (OpenSpec.ofChange fnExactLateByWrong)

/-- 'laws.FnExactSentBy': WHATEVER THE INPUT: true; the input reads as it did. -/
def fnExactSentBySpec : ChangeSpec := { name := "fnExactSentBy", fn := fun _ => fun
  | [d1, d2, d3, d4] => { results := [.lit (.bool true)], args := [d1, d2, d3, d4] }
  | _ => none }
def fnExactSentByRow : OpenClaim := { program := "ytghfkgbmmkcjhaa", sum := "982c82684e589c300ad8dad4a90108fa5e17c27b0545a83f9f16307c9d005b94", func := "loop.example/g01316/laws.FnExactSentBy", spec := "fnExactSentBy", unfollowed := true, recurses := true, apart := false }
def FnExactSentBySaid : Prop := fnExactSentByRow.holds Try.pinned (OpenSpec.ofChange fnExactSentBySpec)

/-- ITS FALSE NEIGHBOUR: 'it returns false'. Refute it at one input. -/
def fnExactSentByWrong : ChangeSpec := { name := "fnExactSentBy", fn := fun _ => fun
  | [d1, d2, d3, d4] => { results := [.lit (.bool false)], args := [d1, d2, d3, d4] }
  | _ => none }
def FnExactSentByWrongFalsely : Prop := fnExactSentByRow.holds Try.pinned (OpenSpec.ofChange fnExactSentByWrong)

/-- 'laws.FnExactStepsTo': WHATEVER THE INPUT: true; the input reads as it did. -/
def fnExactStepsToSpec : ChangeSpec := { name := "fnExactStepsTo", fn := fun _ => fun
  | [d1, d2, d3, d4] => { results := [.lit (.bool true)], args := [d1, d2, d3, d4] }
  | _ => none }
def fnExactStepsToRow : OpenClaim := { program := "ytghfkgbmmkcjhaa", sum := "982c82684e589c300ad8dad4a90108fa5e17c27b0545a83f9f16307c9d005b94", func := "loop.example/g01316/laws.FnExactStepsTo", spec := "fnExactStepsTo", unfollowed := true, recurses := true, apart := false }
def FnExactStepsToSaid : Prop := fnExactStepsToRow.holds Try.pinned (OpenSpec.ofChange fnExactStepsToSpec)

/-- ITS FALSE NEIGHBOUR: 'it returns false'. Refute it at one input. -/
def fnExactStepsToWrong : ChangeSpec := { name := "fnExactStepsTo", fn := fun _ => fun
  | [d1, d2, d3, d4] => { results := [.lit (.bool false)], args := [d1, d2, d3, d4] }
  | _ => none }
def FnExactStepsToWrongFalsely : Prop := fnExactStepsToRow.holds Try.pinned (OpenSpec.ofChange fnExactStepsToWrong)

/-- 'laws.FnExactIdleMinutes': WHATEVER THE INPUT: true; the input reads as it did. -/
def fnExactIdleMinutesSpec : ChangeSpec := { name := "fnExactIdleMinutes", fn := fun _ => fun
  | [d1, d2, d3] => { results := [.lit (.bool true)], args := [d1, d2, d3] }
  | _ => none }
def fnExactIdleMinutesRow : OpenClaim := { program := "ytghfkgbmmkcjhaa", sum := "982c82684e589c300ad8dad4a90108fa5e17c27b0545a83f9f16307c9d005b94", func := "loop.example/g01316/laws.FnExactIdleMinutes", spec := "fnExactIdleMinutes", unfollowed := true, recurses := true, apart := false }
def FnExactIdleMinutesSaid : Prop := fnExactIdleMinutesRow.holds Try.pinned (OpenSpec.ofChange fnExactIdleMinutesSpec)

/-- ITS FALSE NEIGHBOUR: 'it returns false'. Refute it at one input. -/
def fnExactIdleMinutesWrong : ChangeSpec := { name := "fnExactIdleMinutes", fn := fun _ => fun
  | [d1, d2, d3] => { results := [.lit (.bool false)], args := [d1, d2, d3] }
  | _ => none }
def FnExactIdleMinutesWrongFalsely : Prop := fnExactIdleMinutesRow.holds Try.pinned (OpenSpec.ofChange fnExactIdleMinutesWrong)

/-- 'laws.FnExactInOrder': WHATEVER THE INPUT: true; the input reads as it did. -/
def fnExactInOrderSpec : ChangeSpec := { name := "fnExactInOrder", fn := fun _ => fun
  | [d1, d2, d3] => { results := [.lit (.bool true)], args := [d1, d2, d3] }
  | _ => none }
def fnExactInOrderRow : OpenClaim := { program := "ytghfkgbmmkcjhaa", sum := "982c82684e589c300ad8dad4a90108fa5e17c27b0545a83f9f16307c9d005b94", func := "loop.example/g01316/laws.FnExactInOrder", spec := "fnExactInOrder", unfollowed := true, recurses := true, apart := false }
def FnExactInOrderSaid : Prop := fnExactInOrderRow.holds Try.pinned (OpenSpec.ofChange fnExactInOrderSpec)

/-- ITS FALSE NEIGHBOUR: 'it returns false'. Refute it at one input. -/
def fnExactInOrderWrong : ChangeSpec := { name := "fnExactInOrder", fn := fun _ => fun
  | [d1, d2, d3] => { results := [.lit (.bool false)], args := [d1, d2, d3] }
  | _ => none }
def FnExactInOrderWrongFalsely : Prop := fnExactInOrderRow.holds Try.pinned (OpenSpec.ofChange fnExactInOrderWrong)

/- THE SECOND FORM. 'bulk': how many values and letters a reading holds, each counted each time it is reached (what is shared counts as often as it is met; a slice's spare places count too). A statement '..UptoSaid' is the law's where the arguments, and the package variables that the reading takes, are together of bulk at most 1048576: NARROWER than '..Said'. Prove '..Said' where nothing that the law and all that it calls make is longer than what came in: it says more and counts as full. Else prove '..UptoSaid'. A law counts once. -/
mutual
def uptoBulk {H : Type} : DataW H → Nat
  | .lit (.string bytes) => bytes.length + 1
  | .lit _ => 1
  | .nil => 1
  | .ptr d => uptoBulk d + 1
  | .slice elems spare => uptoBulkAll elems + uptoBulkAll spare + 1
  | .agg parts => uptoBulkAll parts + 1
  | .iface _ d => uptoBulk d + 1
  | .map entries => uptoBulkEntries entries + 1
  | .held _ => 1
def uptoBulkAll {H : Type} : List (DataW H) → Nat
  | [] => 0
  | d :: r => uptoBulk d + uptoBulkAll r
def uptoBulkEntries {H : Type} : List (Lit × DataW H) → Nat
  | [] => 0
  | x :: r => uptoBulkEntry x + uptoBulkEntries r
def uptoBulkEntry {H : Type} : Lit × DataW H → Nat
  | (.string bytes, d) => bytes.length + uptoBulk d + 1
  | (_, d) => uptoBulk d + 1
 end
def uptoSmall : (H : Type) → List (DataW H) → Bool := fun _ ds => decide (uptoBulkAll ds ≤ 1048576)
def OpenSpec.upto (s : _root_.Go.ChangeSpec) : _root_.Go.OpenSpec := { _root_.Go.OpenSpec.ofChange s with cond := some uptoSmall }

/-- 'laws.FnExactInformedAt', WHERE WHAT IT READS IS OF BULK AT MOST 1048576: true; the input reads as it did. -/
def fnExactInformedAtUptoRow : OpenClaim := { program := "ytghfkgbmmkcjhaa", sum := "982c82684e589c300ad8dad4a90108fa5e17c27b0545a83f9f16307c9d005b94", func := "loop.example/g01316/laws.FnExactInformedAt", spec := "fnExactInformedAt", apart := false, narrowed := true }
def FnExactInformedAtUptoSaid : Prop := fnExactInformedAtUptoRow.holds Try.pinned (OpenSpec.upto fnExactInformedAtSpec)

/-- 'laws.FnExactNewAt', WHERE WHAT IT READS IS OF BULK AT MOST 1048576: true; the input reads as it did. -/
def fnExactNewAtUptoRow : OpenClaim := { program := "ytghfkgbmmkcjhaa", sum := "982c82684e589c300ad8dad4a90108fa5e17c27b0545a83f9f16307c9d005b94", func := "loop.example/g01316/laws.FnExactNewAt", spec := "fnExactNewAt", apart := false, narrowed := true }
def FnExactNewAtUptoSaid : Prop := fnExactNewAtUptoRow.holds Try.pinned (OpenSpec.upto fnExactNewAtSpec)

/-- 'laws.FnExactMinutesFor', WHERE WHAT IT READS IS OF BULK AT MOST 1048576: true; the input reads as it did. -/
def fnExactMinutesForUptoRow : OpenClaim := { program := "ytghfkgbmmkcjhaa", sum := "982c82684e589c300ad8dad4a90108fa5e17c27b0545a83f9f16307c9d005b94", func := "loop.example/g01316/laws.FnExactMinutesFor", spec := "fnExactMinutesFor", apart := false, narrowed := true }
def FnExactMinutesForUptoSaid : Prop := fnExactMinutesForUptoRow.holds Try.pinned (OpenSpec.upto fnExactMinutesForSpec)

/-- 'laws.FnExactGreatestDelay', WHERE WHAT IT READS IS OF BULK AT MOST 1048576: true; the input reads as it did. -/
def fnExactGreatestDelayUptoRow : OpenClaim := { program := "ytghfkgbmmkcjhaa", sum := "982c82684e589c300ad8dad4a90108fa5e17c27b0545a83f9f16307c9d005b94", func := "loop.example/g01316/laws.FnExactGreatestDelay", spec := "fnExactGreatestDelay", apart := false, narrowed := true }
def FnExactGreatestDelayUptoSaid : Prop := fnExactGreatestDelayUptoRow.holds Try.pinned (OpenSpec.upto fnExactGreatestDelaySpec)

/-- 'laws.FnExactQuickSends', WHERE WHAT IT READS IS OF BULK AT MOST 1048576: true; the input reads as it did. -/
def fnExactQuickSendsUptoRow : OpenClaim := { program := "ytghfkgbmmkcjhaa", sum := "982c82684e589c300ad8dad4a90108fa5e17c27b0545a83f9f16307c9d005b94", func := "loop.example/g01316/laws.FnExactQuickSends", spec := "fnExactQuickSends", apart := false, narrowed := true }
def FnExactQuickSendsUptoSaid : Prop := fnExactQuickSendsUptoRow.holds Try.pinned (OpenSpec.upto fnExactQuickSendsSpec)

/-- 'laws.FnExactAreSends', WHERE WHAT IT READS IS OF BULK AT MOST 1048576: true; the input reads as it did. -/
def fnExactAreSendsUptoRow : OpenClaim := { program := "ytghfkgbmmkcjhaa", sum := "982c82684e589c300ad8dad4a90108fa5e17c27b0545a83f9f16307c9d005b94", func := "loop.example/g01316/laws.FnExactAreSends", spec := "fnExactAreSends", unfollowed := true, recurses := true, apart := false, narrowed := true }
def FnExactAreSendsUptoSaid : Prop := fnExactAreSendsUptoRow.holds Try.pinned (OpenSpec.upto fnExactAreSendsSpec)

/-- 'laws.FnExactArrivalsOf', WHERE WHAT IT READS IS OF BULK AT MOST 1048576: true; the input reads as it did. -/
def fnExactArrivalsOfUptoRow : OpenClaim := { program := "ytghfkgbmmkcjhaa", sum := "982c82684e589c300ad8dad4a90108fa5e17c27b0545a83f9f16307c9d005b94", func := "loop.example/g01316/laws.FnExactArrivalsOf", spec := "fnExactArrivalsOf", unfollowed := true, recurses := true, apart := false, narrowed := true }
def FnExactArrivalsOfUptoSaid : Prop := fnExactArrivalsOfUptoRow.holds Try.pinned (OpenSpec.upto fnExactArrivalsOfSpec)

/-- 'laws.FnExactLastArrival', WHERE WHAT IT READS IS OF BULK AT MOST 1048576: true; the input reads as it did. -/
def fnExactLastArrivalUptoRow : OpenClaim := { program := "ytghfkgbmmkcjhaa", sum := "982c82684e589c300ad8dad4a90108fa5e17c27b0545a83f9f16307c9d005b94", func := "loop.example/g01316/laws.FnExactLastArrival", spec := "fnExactLastArrival", unfollowed := true, recurses := true, apart := false, narrowed := true }
def FnExactLastArrivalUptoSaid : Prop := fnExactLastArrivalUptoRow.holds Try.pinned (OpenSpec.upto fnExactLastArrivalSpec)

/-- 'laws.FnExactLateBy', WHERE WHAT IT READS IS OF BULK AT MOST 1048576: true; the input reads as it did. -/
def fnExactLateByUptoRow : OpenClaim := { program := "ytghfkgbmmkcjhaa", sum := "982c82684e589c300ad8dad4a90108fa5e17c27b0545a83f9f16307c9d005b94", func := "loop.example/g01316/laws.FnExactLateBy", spec := "fnExactLateBy", unfollowed := true, recurses := true, apart := false, narrowed := true }
def FnExactLateByUptoSaid : Prop := fnExactLateByUptoRow.holds Try.pinned (OpenSpec.upto fnExactLateBySpec)

/-- 'laws.FnExactSentBy', WHERE WHAT IT READS IS OF BULK AT MOST 1048576: true; the input reads as it did. -/
def fnExactSentByUptoRow : OpenClaim := { program := "ytghfkgbmmkcjhaa", sum := "982c82684e589c300ad8dad4a90108fa5e17c27b0545a83f9f16307c9d005b94", func := "loop.example/g01316/laws.FnExactSentBy", spec := "fnExactSentBy", unfollowed := true, recurses := true, apart := false, narrowed := true }
def FnExactSentByUptoSaid : Prop := fnExactSentByUptoRow.holds Try.pinned (OpenSpec.upto fnExactSentBySpec)

/-- 'laws.FnExactStepsTo', WHERE WHAT IT READS IS OF BULK AT MOST 1048576: true; the input reads as it did. -/
def fnExactStepsToUptoRow : OpenClaim := { program := "ytghfkgbmmkcjhaa", sum := "982c82684e589c300ad8dad4a90108fa5e17c27b0545a83f9f16307c9d005b94", func := "loop.example/g01316/laws.FnExactStepsTo", spec := "fnExactStepsTo", unfollowed := true, recurses := true, apart := false, narrowed := true }
def FnExactStepsToUptoSaid : Prop := fnExactStepsToUptoRow.holds Try.pinned (OpenSpec.upto fnExactStepsToSpec)

/-- 'laws.FnExactIdleMinutes', WHERE WHAT IT READS IS OF BULK AT MOST 1048576: true; the input reads as it did. -/
def fnExactIdleMinutesUptoRow : OpenClaim := { program := "ytghfkgbmmkcjhaa", sum := "982c82684e589c300ad8dad4a90108fa5e17c27b0545a83f9f16307c9d005b94", func := "loop.example/g01316/laws.FnExactIdleMinutes", spec := "fnExactIdleMinutes", unfollowed := true, recurses := true, apart := false, narrowed := true }
def FnExactIdleMinutesUptoSaid : Prop := fnExactIdleMinutesUptoRow.holds Try.pinned (OpenSpec.upto fnExactIdleMinutesSpec)

/-- 'laws.FnExactInOrder', WHERE WHAT IT READS IS OF BULK AT MOST 1048576: true; the input reads as it did. -/
def fnExactInOrderUptoRow : OpenClaim := { program := "ytghfkgbmmkcjhaa", sum := "982c82684e589c300ad8dad4a90108fa5e17c27b0545a83f9f16307c9d005b94", func := "loop.example/g01316/laws.FnExactInOrder", spec := "fnExactInOrder", unfollowed := true, recurses := true, apart := false, narrowed := true }
def FnExactInOrderUptoSaid : Prop := fnExactInOrderUptoRow.holds Try.pinned (OpenSpec.upto fnExactInOrderSpec)

end Rows
end Go.Proofs.Ytghfkgbmmkcjhaa
