/-
  No cell of these rows narrows 'for every input' (looked for: loops, veiled, ifaces, maps, wideKeys, modest, calm, conditions, laid).
  DERIVED. THE GIVEN ROWS OF THIS SEAT. 7 by the template 'for every input the law returns true; each argument reads behind the call as it read before'; 0 by the template 'total and deterministic' (their statements: YtcedacneagpjcaaTotals.lean).
  GIVEN WITH THE SEED: the statements are not yours to turn. If you find one false, say at which input.
  Laid BY PROGRAM, IN A SANDBOX (cutbox-rows.mjs): the forced cells as the released guide's own fill.sh prints them over the translation eb4cf5b417aada43… (all of the seat's roots in one cut). By AI agents, Wed Nov 11 2026. No macro, syntax, notation, axiom, sorry.
-/
import Derived.Test.YtcedacneagpjcaaChecked
import GoSem.Claim
import GoSem.ClaimJoined
import GoSem.ClaimMapViews
import Derived.JoinedTies
import Derived.KernelRfl
namespace Go.Proofs.Ytcedacneagpjcaa
/- THE CELL 'sum', in the pinned program and in every row, IS THE sha256 OF THE DUMP (.gsa) THAT YtcedacneagpjcaaProg.lean LOADS. Nothing in Lean hashes anything: it is a label: what it is worth is what the hold of that sum in a sandbox is worth. -/
noncomputable def Try.pinned : Pinned := { name := "ytcedacneagpjcaa", sum := "eb4cf5b417aada43327e48467d25f44755defcb75e0ca9c7dc1932228ed65543", checked := Try.checked }
namespace Rows
def none {H : Type} : Left H := { results := [], args := [] }

/-- 'laws.FnExactTellsWires': WHATEVER THE INPUT: true; the input reads as it did. -/
def fnExactTellsWiresSpec : ChangeSpec := { name := "fnExactTellsWires", fn := fun _ => fun
  | [d1, d2] => { results := [.lit (.bool true)], args := [d1, d2] }
  | _ => none }
def fnExactTellsWiresRow : OpenClaim := { program := "ytcedacneagpjcaa", sum := "eb4cf5b417aada43327e48467d25f44755defcb75e0ca9c7dc1932228ed65543", func := "loop.example/g01316/laws.FnExactTellsWires", spec := "fnExactTellsWires", plainKeys := false, apart := false }
def FnExactTellsWiresSaid : Prop := fnExactTellsWiresRow.holds Try.pinned (OpenSpec.ofChange fnExactTellsWiresSpec)

/-- ITS FALSE NEIGHBOUR: 'it returns false'. Refute it at one input. -/
def fnExactTellsWiresWrong : ChangeSpec := { name := "fnExactTellsWires", fn := fun _ => fun
  | [d1, d2] => { results := [.lit (.bool false)], args := [d1, d2] }
  | _ => none }
def FnExactTellsWiresWrongFalsely : Prop := fnExactTellsWiresRow.holds Try.pinned (OpenSpec.ofChange fnExactTellsWiresWrong)

/-- 'laws.FnExactCanBeTold': WHATEVER THE INPUT: true; the input reads as it did. -/
def fnExactCanBeToldSpec : ChangeSpec := { name := "fnExactCanBeTold", fn := fun _ => fun
  | [d] => { results := [.lit (.bool true)], args := [d] }
  | _ => none }
def fnExactCanBeToldRow : OpenClaim := { program := "ytcedacneagpjcaa", sum := "eb4cf5b417aada43327e48467d25f44755defcb75e0ca9c7dc1932228ed65543", func := "loop.example/g01316/laws.FnExactCanBeTold", spec := "fnExactCanBeTold", recurses := true, plainKeys := false, apart := false }
def FnExactCanBeToldSaid : Prop := fnExactCanBeToldRow.holds Try.pinned (OpenSpec.ofChange fnExactCanBeToldSpec)

/-- ITS FALSE NEIGHBOUR: 'it returns false'. Refute it at one input. -/
def fnExactCanBeToldWrong : ChangeSpec := { name := "fnExactCanBeTold", fn := fun _ => fun
  | [d] => { results := [.lit (.bool false)], args := [d] }
  | _ => none }
def FnExactCanBeToldWrongFalsely : Prop := fnExactCanBeToldRow.holds Try.pinned (OpenSpec.ofChange fnExactCanBeToldWrong)

/-- 'laws.FnExactFirstTelling': WHATEVER THE INPUT: true; the input reads as it did. -/
def fnExactFirstTellingSpec : ChangeSpec := { name := "fnExactFirstTelling", fn := fun _ => fun
  | [d] => { results := [.lit (.bool true)], args := [d] }
  | _ => none }
def fnExactFirstTellingRow : OpenClaim := { program := "ytcedacneagpjcaa", sum := "eb4cf5b417aada43327e48467d25f44755defcb75e0ca9c7dc1932228ed65543", func := "loop.example/g01316/laws.FnExactFirstTelling", spec := "fnExactFirstTelling", recurses := true, plainKeys := false, apart := false }
def FnExactFirstTellingSaid : Prop := fnExactFirstTellingRow.holds Try.pinned (OpenSpec.ofChange fnExactFirstTellingSpec)

/-- ITS FALSE NEIGHBOUR: 'it returns false'. Refute it at one input. -/
def fnExactFirstTellingWrong : ChangeSpec := { name := "fnExactFirstTelling", fn := fun _ => fun
  | [d] => { results := [.lit (.bool false)], args := [d] }
  | _ => none }
def FnExactFirstTellingWrongFalsely : Prop := fnExactFirstTellingRow.holds Try.pinned (OpenSpec.ofChange fnExactFirstTellingWrong)

/-- 'laws.FnExactSizesTell': WHATEVER THE INPUT: true; the input reads as it did. -/
def fnExactSizesTellSpec : ChangeSpec := { name := "fnExactSizesTell", fn := fun _ => fun
  | [d1, d2, d3] => { results := [.lit (.bool true)], args := [d1, d2, d3] }
  | _ => none }
def fnExactSizesTellRow : OpenClaim := { program := "ytcedacneagpjcaa", sum := "eb4cf5b417aada43327e48467d25f44755defcb75e0ca9c7dc1932228ed65543", func := "loop.example/g01316/laws.FnExactSizesTell", spec := "fnExactSizesTell", unfollowed := true, recurses := true, plainKeys := false, apart := false }
def FnExactSizesTellSaid : Prop := fnExactSizesTellRow.holds Try.pinned (OpenSpec.ofChange fnExactSizesTellSpec)

/-- ITS FALSE NEIGHBOUR: 'it returns false'. Refute it at one input. -/
def fnExactSizesTellWrong : ChangeSpec := { name := "fnExactSizesTell", fn := fun _ => fun
  | [d1, d2, d3] => { results := [.lit (.bool false)], args := [d1, d2, d3] }
  | _ => none }
def FnExactSizesTellWrongFalsely : Prop := fnExactSizesTellRow.holds Try.pinned (OpenSpec.ofChange fnExactSizesTellWrong)

/-- 'laws.FnExactCountPartners': WHATEVER THE INPUT: true; the input reads as it did. -/
def fnExactCountPartnersSpec : ChangeSpec := { name := "fnExactCountPartners", fn := fun _ => fun
  | [d] => { results := [.lit (.bool true)], args := [d] }
  | _ => none }
def fnExactCountPartnersRow : OpenClaim := { program := "ytcedacneagpjcaa", sum := "eb4cf5b417aada43327e48467d25f44755defcb75e0ca9c7dc1932228ed65543", func := "loop.example/g01316/laws.FnExactCountPartners", spec := "fnExactCountPartners", recurses := true, plainKeys := false, apart := false }
def FnExactCountPartnersSaid : Prop := fnExactCountPartnersRow.holds Try.pinned (OpenSpec.ofChange fnExactCountPartnersSpec)

/-- ITS FALSE NEIGHBOUR: 'it returns false'. Refute it at one input. -/
def fnExactCountPartnersWrong : ChangeSpec := { name := "fnExactCountPartners", fn := fun _ => fun
  | [d] => { results := [.lit (.bool false)], args := [d] }
  | _ => none }
def FnExactCountPartnersWrongFalsely : Prop := fnExactCountPartnersRow.holds Try.pinned (OpenSpec.ofChange fnExactCountPartnersWrong)

/-- 'laws.FnExactFirstPartner': WHATEVER THE INPUT: true; the input reads as it did. -/
def fnExactFirstPartnerSpec : ChangeSpec := { name := "fnExactFirstPartner", fn := fun _ => fun
  | [d] => { results := [.lit (.bool true)], args := [d] }
  | _ => none }
def fnExactFirstPartnerRow : OpenClaim := { program := "ytcedacneagpjcaa", sum := "eb4cf5b417aada43327e48467d25f44755defcb75e0ca9c7dc1932228ed65543", func := "loop.example/g01316/laws.FnExactFirstPartner", spec := "fnExactFirstPartner", recurses := true, plainKeys := false, apart := false }
def FnExactFirstPartnerSaid : Prop := fnExactFirstPartnerRow.holds Try.pinned (OpenSpec.ofChange fnExactFirstPartnerSpec)

/-- ITS FALSE NEIGHBOUR: 'it returns false'. Refute it at one input. -/
def fnExactFirstPartnerWrong : ChangeSpec := { name := "fnExactFirstPartner", fn := fun _ => fun
  | [d] => { results := [.lit (.bool false)], args := [d] }
  | _ => none }
def FnExactFirstPartnerWrongFalsely : Prop := fnExactFirstPartnerRow.holds Try.pinned (OpenSpec.ofChange fnExactFirstPartnerWrong)

/-- 'laws.FnExactLikeWires': WHATEVER THE INPUT: true; the input reads as it did. -/
def fnExactLikeWiresSpec : ChangeSpec := { name := "fnExactLikeWires", fn := fun _ => fun
  | [d1, d2] => { results := [.lit (.bool true)], args := [d1, d2] }
  | _ => none }
def fnExactLikeWiresRow : OpenClaim := { program := "ytcedacneagpjcaa", sum := "eb4cf5b417aada43327e48467d25f44755defcb75e0ca9c7dc1932228ed65543", func := "loop.example/g01316/laws.FnExactLikeWires", spec := "fnExactLikeWires", plainKeys := false, apart := false }
def FnExactLikeWiresSaid : Prop := fnExactLikeWiresRow.holds Try.pinned (OpenSpec.ofChange fnExactLikeWiresSpec)

/-- ITS FALSE NEIGHBOUR: 'it returns false'. Refute it at one input. -/
def fnExactLikeWiresWrong : ChangeSpec := { name := "fnExactLikeWires", fn := fun _ => fun
  | [d1, d2] => { results := [.lit (.bool false)], args := [d1, d2] }
  | _ => none }
def FnExactLikeWiresWrongFalsely : Prop := fnExactLikeWiresRow.holds Try.pinned (OpenSpec.ofChange fnExactLikeWiresWrong)

/- THE SECOND FORM. 'bulk': how many values and letters a reading holds, each counted each time it is reached (what is shared counts as often as it is met; a slice's spare places count too). A statement '..UptoSaid' is the law's where the arguments, and the package variables that the reading takes, are together of bulk at most 1048576: NARROWER than '..Said'. Prove '..Said' where nothing that the law and all that it calls make is longer than what came in: it says more and counts as full. Else prove '..UptoSaid'. A law counts once. -/
mutual
def uptoBulk {H : Type} : DataW H → Nat
  | .lit (.string bytes) => bytes.length + 1
  | .lit _ => 1
  | .nil => 1
  | .ptr d => uptoBulk d + 1
  | .slice elems spare => uptoBulkAll elems + uptoBulkAll spare + 1
  | .agg parts => uptoBulkAll parts + 1
  | .iface _ d => uptoBulk d + 1
  | .map entries => uptoBulkEntries entries + 1
  | .held _ => 1
def uptoBulkAll {H : Type} : List (DataW H) → Nat
  | [] => 0
  | d :: r => uptoBulk d + uptoBulkAll r
def uptoBulkEntries {H : Type} : List (Lit × DataW H) → Nat
  | [] => 0
  | x :: r => uptoBulkEntry x + uptoBulkEntries r
def uptoBulkEntry {H : Type} : Lit × DataW H → Nat
  | (.string bytes, d) => bytes.length + uptoBulk d + 1
  | (_, d) => uptoBulk d + 1
 end
def uptoSmall : (H : Type) → List (DataW H) → Bool := fun _ ds => decide (uptoBulkAll ds ≤ 1048576)
def OpenSpec.upto (s : _root_.Go.ChangeSpec) : _root_.Go.OpenSpec := { _root_.Go.OpenSpec.ofChange s with cond := some uptoSmall }

/-- 'laws.FnExactTellsWires', WHERE WHAT IT READS IS OF BULK AT MOST 1048576: true; the input reads as it did. -/
def fnExactTellsWiresUptoRow : OpenClaim := { program := "ytcedacneagpjcaa", sum := "eb4cf5b417aada43327e48467d25f44755defcb75e0ca9c7dc1932228ed65543", func := "loop.example/g01316/laws.FnExactTellsWires", spec := "fnExactTellsWires", plainKeys := false, apart := false, narrowed := true }
def FnExactTellsWiresUptoSaid : Prop := fnExactTellsWiresUptoRow.holds Try.pinned (OpenSpec.upto fnExactTellsWiresSpec)

/-- 'laws.FnExactCanBeTold', WHERE WHAT IT READS IS OF BULK AT MOST 1048576: true; the input reads as it did. -/
def fnExactCanBeToldUptoRow : OpenClaim := { program := "ytcedacneagpjcaa", sum := "eb4cf5b417aada43327e48467d25f44755defcb75e0ca9c7dc1932228ed65543", func := "loop.example/g01316/laws.FnExactCanBeTold", spec := "fnExactCanBeTold", recurses := true, plainKeys := false, apart := false, narrowed := true }
def FnExactCanBeToldUptoSaid : Prop := fnExactCanBeToldUptoRow.holds Try.pinned (OpenSpec.upto fnExactCanBeToldSpec)

/-- 'laws.FnExactFirstTelling', WHERE WHAT IT READS IS OF BULK AT MOST 1048576: true; the input reads as it did. -/
def fnExactFirstTellingUptoRow : OpenClaim := { program := "ytcedacneagpjcaa", sum := "eb4cf5b417aada43327e48467d25f44755defcb75e0ca9c7dc1932228ed65543", func := "loop.example/g01316/laws.FnExactFirstTelling", spec := "fnExactFirstTelling", recurses := true, plainKeys := false, apart := false, narrowed := true }
def FnExactFirstTellingUptoSaid : Prop := fnExactFirstTellingUptoRow.holds Try.pinned (OpenSpec.upto fnExactFirstTellingSpec)

/-- 'laws.FnExactSizesTell', WHERE WHAT IT READS IS OF BULK AT MOST 1048576: true; the input reads as it did. -/
def fnExactSizesTellUptoRow : OpenClaim := { program := "ytcedacneagpjcaa", sum := "eb4cf5b417aada43327e48467d25f44755defcb75e0ca9c7dc1932228ed65543", func := "loop.example/g01316/laws.FnExactSizesTell", spec := "fnExactSizesTell", unfollowed := true, recurses := true, plainKeys := false, apart := false, narrowed := true }
def FnExactSizesTellUptoSaid : Prop := fnExactSizesTellUptoRow.holds Try.pinned (OpenSpec.upto fnExactSizesTellSpec)

/-- 'laws.FnExactCountPartners', WHERE WHAT IT READS IS OF BULK AT MOST 1048576: true; the input reads as it did. -/
def fnExactCountPartnersUptoRow : OpenClaim := { program := "ytcedacneagpjcaa", sum := "eb4cf5b417aada43327e48467d25f44755defcb75e0ca9c7dc1932228ed65543", func := "loop.example/g01316/laws.FnExactCountPartners", spec := "fnExactCountPartners", recurses := true, plainKeys := false, apart := false, narrowed := true }
def FnExactCountPartnersUptoSaid : Prop := fnExactCountPartnersUptoRow.holds Try.pinned (OpenSpec.upto fnExactCountPartnersSpec)

/-- 'laws.FnExactFirstPartner', WHERE WHAT IT READS IS OF BULK AT MOST 1048576: true; the input reads as it did. -/
def fnExactFirstPartnerUptoRow : OpenClaim := { program := "ytcedacneagpjcaa", sum := "eb4cf5b417aada43327e48467d25f44755defcb75e0ca9c7dc1932228ed65543", func := "loop.example/g01316/laws.FnExactFirstPartner", spec := "fnExactFirstPartner", recurses := true, plainKeys := false, apart := false, narrowed := true }
def FnExactFirstPartnerUptoSaid : Prop := fnExactFirstPartnerUptoRow.holds Try.pinned (OpenSpec.upto fnExactFirstPartnerSpec)

/-- 'laws.FnExactLikeWires', WHERE WHAT IT READS IS OF BULK AT MOST 1048576: true; the input reads as it did. -/
def fnExactLikeWiresUptoRow : OpenClaim := { program := "ytcedacneagpjcaa", sum := "eb4cf5b417aada43327e48467d25f44755defcb75e0ca9c7dc1932228ed65543", func := "loop.example/g01316/laws.FnExactLikeWires", spec := "fnExactLikeWires", plainKeys := false, apart := false, narrowed := true }
def FnExactLikeWiresUptoSaid : Prop := fnExactLikeWiresUptoRow.holds Try.pinned (OpenSpec.upto fnExactLikeWiresSpec)

end Rows
end Go.Proofs.Ytcedacneagpjcaa
