/-
  No cell of these rows narrows 'for every input' (looked for: loops, veiled, ifaces, maps, wideKeys, modest, calm, conditions, laid).
  DERIVED. THE GIVEN ROWS OF THIS SEAT. 9 by the template 'for every input the law returns true; each argument reads behind the call as it read before'; 0 by the template 'total and deterministic' (their statements: YtaangjidkkpogaaTotals.lean).
  GIVEN WITH THE SEED: the statements are not yours to turn. If you find one false, say at which input.
  Laid BY PROGRAM, IN A SANDBOX (cutbox-rows.mjs): the forced cells as the released guide's own fill.sh prints them over the translation 25b1b52a867c86b0… (all of the seat's roots in one cut). By AI agents, Wed Nov 11 2026. No macro, syntax, notation, axiom, sorry.
-/
import Derived.Test.YtaangjidkkpogaaChecked
import GoSem.Claim
import GoSem.ClaimJoined
import GoSem.ClaimMapViews
import Derived.JoinedTies
import Derived.KernelRfl
namespace Go.Proofs.Ytaangjidkkpogaa
/- THE CELL 'sum', in the pinned program and in every row, IS THE sha256 OF THE DUMP (.gsa) THAT YtaangjidkkpogaaProg.lean LOADS. Nothing in Lean hashes anything: it is a label: what it is worth is what the hold of that sum in a sandbox is worth. -/
noncomputable def Try.pinned : Pinned := { name := "ytaangjidkkpogaa", sum := "25b1b52a867c86b09e539d4e3345bf5f4b1f9879151d52f8f529563f879ce9a3", checked := Try.checked }
namespace Rows
def none {H : Type} : Left H := { results := [], args := [] }

/-- 'laws.FnExactAreClaims': WHATEVER THE INPUT: true; the input reads as it did. -/
def fnExactAreClaimsSpec : ChangeSpec := { name := "fnExactAreClaims", fn := fun _ => fun
  | [d1, d2] => { results := [.lit (.bool true)], args := [d1, d2] }
  | _ => none }
def fnExactAreClaimsRow : OpenClaim := { program := "ytaangjidkkpogaa", sum := "25b1b52a867c86b09e539d4e3345bf5f4b1f9879151d52f8f529563f879ce9a3", func := "loop.example/g01316/laws.FnExactAreClaims", spec := "fnExactAreClaims", apart := false }
def FnExactAreClaimsSaid : Prop := fnExactAreClaimsRow.holds Try.pinned (OpenSpec.ofChange fnExactAreClaimsSpec)

/-- ITS FALSE NEIGHBOUR: 'it returns false'. Refute it at one input. -/
def fnExactAreClaimsWrong : ChangeSpec := { name := "fnExactAreClaims", fn := fun _ => fun
  | [d1, d2] => { results := [.lit (.bool false)], args := [d1, d2] }
  | _ => none }
def FnExactAreClaimsWrongFalsely : Prop := fnExactAreClaimsRow.holds Try.pinned (OpenSpec.ofChange fnExactAreClaimsWrong)

/-- 'laws.FnExactCountCasts': WHATEVER THE INPUT: true; the input reads as it did. -/
def fnExactCountCastsSpec : ChangeSpec := { name := "fnExactCountCasts", fn := fun _ => fun
  | [d1, d2] => { results := [.lit (.bool true)], args := [d1, d2] }
  | _ => none }
def fnExactCountCastsRow : OpenClaim := { program := "ytaangjidkkpogaa", sum := "25b1b52a867c86b09e539d4e3345bf5f4b1f9879151d52f8f529563f879ce9a3", func := "loop.example/g01316/laws.FnExactCountCasts", spec := "fnExactCountCasts", apart := false }
def FnExactCountCastsSaid : Prop := fnExactCountCastsRow.holds Try.pinned (OpenSpec.ofChange fnExactCountCastsSpec)

/-- ITS FALSE NEIGHBOUR: 'it returns false'. Refute it at one input. -/
def fnExactCountCastsWrong : ChangeSpec := { name := "fnExactCountCasts", fn := fun _ => fun
  | [d1, d2] => { results := [.lit (.bool false)], args := [d1, d2] }
  | _ => none }
def FnExactCountCastsWrongFalsely : Prop := fnExactCountCastsRow.holds Try.pinned (OpenSpec.ofChange fnExactCountCastsWrong)

/-- 'laws.FnExactCastsOf': WHATEVER THE INPUT: true; the input reads as it did. -/
def fnExactCastsOfSpec : ChangeSpec := { name := "fnExactCastsOf", fn := fun _ => fun
  | [d1, d2] => { results := [.lit (.bool true)], args := [d1, d2] }
  | _ => none }
def fnExactCastsOfRow : OpenClaim := { program := "ytaangjidkkpogaa", sum := "25b1b52a867c86b09e539d4e3345bf5f4b1f9879151d52f8f529563f879ce9a3", func := "loop.example/g01316/laws.FnExactCastsOf", spec := "fnExactCastsOf", unfollowed := true, recurses := true, apart := false }
def FnExactCastsOfSaid : Prop := fnExactCastsOfRow.holds Try.pinned (OpenSpec.ofChange fnExactCastsOfSpec)

/-- ITS FALSE NEIGHBOUR: 'it returns false'. Refute it at one input. -/
def fnExactCastsOfWrong : ChangeSpec := { name := "fnExactCastsOf", fn := fun _ => fun
  | [d1, d2] => { results := [.lit (.bool false)], args := [d1, d2] }
  | _ => none }
def FnExactCastsOfWrongFalsely : Prop := fnExactCastsOfRow.holds Try.pinned (OpenSpec.ofChange fnExactCastsOfWrong)

/-- 'laws.FnExactSureCast': WHATEVER THE INPUT: true; the input reads as it did. -/
def fnExactSureCastSpec : ChangeSpec := { name := "fnExactSureCast", fn := fun _ => fun
  | [d1, d2] => { results := [.lit (.bool true)], args := [d1, d2] }
  | _ => none }
def fnExactSureCastRow : OpenClaim := { program := "ytaangjidkkpogaa", sum := "25b1b52a867c86b09e539d4e3345bf5f4b1f9879151d52f8f529563f879ce9a3", func := "loop.example/g01316/laws.FnExactSureCast", spec := "fnExactSureCast", unfollowed := true, recurses := true, apart := false }
def FnExactSureCastSaid : Prop := fnExactSureCastRow.holds Try.pinned (OpenSpec.ofChange fnExactSureCastSpec)

/-- ITS FALSE NEIGHBOUR: 'it returns false'. Refute it at one input. -/
def fnExactSureCastWrong : ChangeSpec := { name := "fnExactSureCast", fn := fun _ => fun
  | [d1, d2] => { results := [.lit (.bool false)], args := [d1, d2] }
  | _ => none }
def FnExactSureCastWrongFalsely : Prop := fnExactSureCastRow.holds Try.pinned (OpenSpec.ofChange fnExactSureCastWrong)

/-- 'laws.FnExactFewestLiars': WHATEVER THE INPUT: true; the input reads as it did. -/
def fnExactFewestLiarsSpec : ChangeSpec := { name := "fnExactFewestLiars", fn := fun _ => fun
  | [d1, d2] => { results := [.lit (.bool true)], args := [d1, d2] }
  | _ => none }
def fnExactFewestLiarsRow : OpenClaim := { program := "ytaangjidkkpogaa", sum := "25b1b52a867c86b09e539d4e3345bf5f4b1f9879151d52f8f529563f879ce9a3", func := "loop.example/g01316/laws.FnExactFewestLiars", spec := "fnExactFewestLiars", inPlace := ["internal/bytealg.CountString", "internal/bytealg.IndexByteString", "internal/bytealg.IndexString"], unfollowed := true, recurses := true, named := ["internal/bytealg.MaxLen"], apart := false }
def FnExactFewestLiarsSaid : Prop := fnExactFewestLiarsRow.holds Try.pinned (OpenSpec.ofChange fnExactFewestLiarsSpec)

/-- ITS FALSE NEIGHBOUR: 'it returns false'. Refute it at one input. -/
def fnExactFewestLiarsWrong : ChangeSpec := { name := "fnExactFewestLiars", fn := fun _ => fun
  | [d1, d2] => { results := [.lit (.bool false)], args := [d1, d2] }
  | _ => none }
def FnExactFewestLiarsWrongFalsely : Prop := fnExactFewestLiarsRow.holds Try.pinned (OpenSpec.ofChange fnExactFewestLiarsWrong)

/-- 'laws.FnExactMostLiars': WHATEVER THE INPUT: true; the input reads as it did. -/
def fnExactMostLiarsSpec : ChangeSpec := { name := "fnExactMostLiars", fn := fun _ => fun
  | [d1, d2] => { results := [.lit (.bool true)], args := [d1, d2] }
  | _ => none }
def fnExactMostLiarsRow : OpenClaim := { program := "ytaangjidkkpogaa", sum := "25b1b52a867c86b09e539d4e3345bf5f4b1f9879151d52f8f529563f879ce9a3", func := "loop.example/g01316/laws.FnExactMostLiars", spec := "fnExactMostLiars", inPlace := ["internal/bytealg.CountString", "internal/bytealg.IndexByteString", "internal/bytealg.IndexString"], unfollowed := true, recurses := true, named := ["internal/bytealg.MaxLen"], apart := false }
def FnExactMostLiarsSaid : Prop := fnExactMostLiarsRow.holds Try.pinned (OpenSpec.ofChange fnExactMostLiarsSpec)

/-- ITS FALSE NEIGHBOUR: 'it returns false'. Refute it at one input. -/
def fnExactMostLiarsWrong : ChangeSpec := { name := "fnExactMostLiars", fn := fun _ => fun
  | [d1, d2] => { results := [.lit (.bool false)], args := [d1, d2] }
  | _ => none }
def FnExactMostLiarsWrongFalsely : Prop := fnExactMostLiarsRow.holds Try.pinned (OpenSpec.ofChange fnExactMostLiarsWrong)

/-- 'laws.FnExactFirstClash': WHATEVER THE INPUT: true; the input reads as it did. -/
def fnExactFirstClashSpec : ChangeSpec := { name := "fnExactFirstClash", fn := fun _ => fun
  | [d1, d2] => { results := [.lit (.bool true)], args := [d1, d2] }
  | _ => none }
def fnExactFirstClashRow : OpenClaim := { program := "ytaangjidkkpogaa", sum := "25b1b52a867c86b09e539d4e3345bf5f4b1f9879151d52f8f529563f879ce9a3", func := "loop.example/g01316/laws.FnExactFirstClash", spec := "fnExactFirstClash", apart := false }
def FnExactFirstClashSaid : Prop := fnExactFirstClashRow.holds Try.pinned (OpenSpec.ofChange fnExactFirstClashSpec)

/-- ITS FALSE NEIGHBOUR: 'it returns false'. Refute it at one input. -/
def fnExactFirstClashWrong : ChangeSpec := { name := "fnExactFirstClash", fn := fun _ => fun
  | [d1, d2] => { results := [.lit (.bool false)], args := [d1, d2] }
  | _ => none }
def FnExactFirstClashWrongFalsely : Prop := fnExactFirstClashRow.holds Try.pinned (OpenSpec.ofChange fnExactFirstClashWrong)

/-- 'laws.FnExactNeedlessClaims': WHATEVER THE INPUT: true; the input reads as it did. -/
def fnExactNeedlessClaimsSpec : ChangeSpec := { name := "fnExactNeedlessClaims", fn := fun _ => fun
  | [d1, d2] => { results := [.lit (.bool true)], args := [d1, d2] }
  | _ => none }
def fnExactNeedlessClaimsRow : OpenClaim := { program := "ytaangjidkkpogaa", sum := "25b1b52a867c86b09e539d4e3345bf5f4b1f9879151d52f8f529563f879ce9a3", func := "loop.example/g01316/laws.FnExactNeedlessClaims", spec := "fnExactNeedlessClaims", apart := false }
def FnExactNeedlessClaimsSaid : Prop := fnExactNeedlessClaimsRow.holds Try.pinned (OpenSpec.ofChange fnExactNeedlessClaimsSpec)

/-- ITS FALSE NEIGHBOUR: 'it returns false'. Refute it at one input. -/
def fnExactNeedlessClaimsWrong : ChangeSpec := { name := "fnExactNeedlessClaims", fn := fun _ => fun
  | [d1, d2] => { results := [.lit (.bool false)], args := [d1, d2] }
  | _ => none }
def FnExactNeedlessClaimsWrongFalsely : Prop := fnExactNeedlessClaimsRow.holds Try.pinned (OpenSpec.ofChange fnExactNeedlessClaimsWrong)

/-- 'laws.FnExactWouldSay': WHATEVER THE INPUT: true; the input reads as it did. -/
def fnExactWouldSaySpec : ChangeSpec := { name := "fnExactWouldSay", fn := fun _ => fun
  | [d1, d2, d3, d4] => { results := [.lit (.bool true)], args := [d1, d2, d3, d4] }
  | _ => none }
def fnExactWouldSayRow : OpenClaim := { program := "ytaangjidkkpogaa", sum := "25b1b52a867c86b09e539d4e3345bf5f4b1f9879151d52f8f529563f879ce9a3", func := "loop.example/g01316/laws.FnExactWouldSay", spec := "fnExactWouldSay", unfollowed := true, recurses := true, apart := false }
def FnExactWouldSaySaid : Prop := fnExactWouldSayRow.holds Try.pinned (OpenSpec.ofChange fnExactWouldSaySpec)

/-- ITS FALSE NEIGHBOUR: 'it returns false'. Refute it at one input. -/
def fnExactWouldSayWrong : ChangeSpec := { name := "fnExactWouldSay", fn := fun _ => fun
  | [d1, d2, d3, d4] => { results := [.lit (.bool false)], args := [d1, d2, d3, d4] }
  | _ => none }
def FnExactWouldSayWrongFalsely : Prop := fnExactWouldSayRow.holds Try.pinned (OpenSpec.ofChange fnExactWouldSayWrong)

/- THE SECOND FORM. 'bulk': how many values and letters a reading holds, each counted each time it is reached (what is shared counts as often as it is met; a slice's spare places count too). A statement '..UptoSaid' is the law's where the arguments, and the package variables that the reading takes, are together of bulk at most 1048576: NARROWER than '..Said'. Prove '..Said' where nothing that the law and all that it calls make is longer than what came in: it says more and counts as full. Else prove '..UptoSaid'. A law counts once. -/
mutual
def uptoBulk {H : Type} : DataW H → Nat
  | .lit (.string bytes) => bytes.length + 1
  | .lit _ => 1
  | .nil => 1
  | .ptr d => uptoBulk d + 1
  | .slice elems spare => uptoBulkAll elems + uptoBulkAll spare + 1
  | .agg parts => uptoBulkAll parts + 1
  | .iface _ d => uptoBulk d + 1
  | .map entries => uptoBulkEntries entries + 1
  | .held _ => 1
def uptoBulkAll {H : Type} : List (DataW H) → Nat
  | [] => 0
  | d :: r => uptoBulk d + uptoBulkAll r
def uptoBulkEntries {H : Type} : List (Lit × DataW H) → Nat
  | [] => 0
  | x :: r => uptoBulkEntry x + uptoBulkEntries r
def uptoBulkEntry {H : Type} : Lit × DataW H → Nat
  | (.string bytes, d) => bytes.length + uptoBulk d + 1
  | (_, d) => uptoBulk d + 1
 end
def uptoSmall : (H : Type) → List (DataW H) → Bool := fun _ ds => decide (uptoBulkAll ds ≤ 1048576)
def OpenSpec.upto (s : _root_.Go.ChangeSpec) : _root_.Go.OpenSpec := { _root_.Go.OpenSpec.ofChange s with cond := some uptoSmall }

/-- 'laws.FnExactAreClaims', WHERE WHAT IT READS IS OF BULK AT MOST 1048576: true; the input reads as it did. -/
def fnExactAreClaimsUptoRow : OpenClaim := { program := "ytaangjidkkpogaa", sum := "25b1b52a867c86b09e539d4e3345bf5f4b1f9879151d52f8f529563f879ce9a3", func := "loop.example/g01316/laws.FnExactAreClaims", spec := "fnExactAreClaims", apart := false, narrowed := true }
def FnExactAreClaimsUptoSaid : Prop := fnExactAreClaimsUptoRow.holds Try.pinned (OpenSpec.upto fnExactAreClaimsSpec)

/-- 'laws.FnExactCountCasts', WHERE WHAT IT READS IS OF BULK AT MOST 1048576: true; the input reads as it did. -/
def fnExactCountCastsUptoRow : OpenClaim := { program := "ytaangjidkkpogaa", sum := "25b1b52a867c86b09e539d4e3345bf5f4b1f9879151d52f8f529563f879ce9a3", func := "loop.example/g01316/laws.FnExactCountCasts", spec := "fnExactCountCasts", apart := false, narrowed := true }
def FnExactCountCastsUptoSaid : Prop := fnExactCountCastsUptoRow.holds Try.pinned (OpenSpec.upto fnExactCountCastsSpec)

/-- 'laws.FnExactCastsOf', WHERE WHAT IT READS IS OF BULK AT MOST 1048576: true; the input reads as it did. -/
def fnExactCastsOfUptoRow : OpenClaim := { program := "ytaangjidkkpogaa", sum := "25b1b52a867c86b09e539d4e3345bf5f4b1f9879151d52f8f529563f879ce9a3", func := "loop.example/g01316/laws.FnExactCastsOf", spec := "fnExactCastsOf", unfollowed := true, recurses := true, apart := false, narrowed := true }
def FnExactCastsOfUptoSaid : Prop := fnExactCastsOfUptoRow.holds Try.pinned (OpenSpec.upto fnExactCastsOfSpec)

/-- 'laws.FnExactSureCast', WHERE WHAT IT READS IS OF BULK AT MOST 1048576: true; the input reads as it did. -/
def fnExactSureCastUptoRow : OpenClaim := { program := "ytaangjidkkpogaa", sum := "25b1b52a867c86b09e539d4e3345bf5f4b1f9879151d52f8f529563f879ce9a3", func := "loop.example/g01316/laws.FnExactSureCast", spec := "fnExactSureCast", unfollowed := true, recurses := true, apart := false, narrowed := true }
def FnExactSureCastUptoSaid : Prop := fnExactSureCastUptoRow.holds Try.pinned (OpenSpec.upto fnExactSureCastSpec)

/-- 'laws.FnExactFewestLiars', WHERE WHAT IT READS IS OF BULK AT MOST 1048576: true; the input reads as it did. -/
def fnExactFewestLiarsUptoRow : OpenClaim := { program := "ytaangjidkkpogaa", sum := "25b1b52a867c86b09e539d4e3345bf5f4b1f9879151d52f8f529563f879ce9a3", func := "loop.example/g01316/laws.FnExactFewestLiars", spec := "fnExactFewestLiars", inPlace := ["internal/bytealg.CountString", "internal/bytealg.IndexByteString", "internal/bytealg.IndexString"], unfollowed := true, recurses := true, named := ["internal/bytealg.MaxLen"], apart := false, narrowed := true }
def FnExactFewestLiarsUptoSaid : Prop := fnExactFewestLiarsUptoRow.holds Try.pinned (OpenSpec.upto fnExactFewestLiarsSpec)

/-- 'laws.FnExactMostLiars', WHERE WHAT IT READS IS OF BULK AT MOST 1048576: true; the input reads as it did. -/
def fnExactMostLiarsUptoRow : OpenClaim := { program := "ytaangjidkkpogaa", sum := "25b1b52a867c86b09e539d4e3345bf5f4b1f9879151d52f8f529563f879ce9a3", func := "loop.example/g01316/laws.FnExactMostLiars", spec := "fnExactMostLiars", inPlace := ["internal/bytealg.CountString", "internal/bytealg.IndexByteString", "internal/bytealg.IndexString"], unfollowed := true, recurses := true, named := ["internal/bytealg.MaxLen"], apart := false, narrowed := true }
def FnExactMostLiarsUptoSaid : Prop := fnExactMostLiarsUptoRow.holds Try.pinned (OpenSpec.upto fnExactMostLiarsSpec)

/-- 'laws.FnExactFirstClash', WHERE WHAT IT READS IS OF BULK AT MOST 1048576: true; the input reads as it did. -/
def fnExactFirstClashUptoRow : OpenClaim := { program := "ytaangjidkkpogaa", sum := "25b1b52a867c86b09e539d4e3345bf5f4b1f9879151d52f8f529563f879ce9a3", func := "loop.example/g01316/laws.FnExactFirstClash", spec := "fnExactFirstClash", apart := false, narrowed := true }
def FnExactFirstClashUptoSaid : Prop := fnExactFirstClashUptoRow.holds Try.pinned (OpenSpec.upto fnExactFirstClashSpec)

/-- 'laws.FnExactNeedlessClaims', WHERE WHAT IT READS IS OF BULK AT MOST 1048576: true; the input reads as it did. -/
def fnExactNeedlessClaimsUptoRow : OpenClaim := { program := "ytaangjidkkpogaa", sum := "25b1b52a867c86b09e539d4e3345bf5f4b1f9879151d52f8f529563f879ce9a3", func := "loop.example/g01316/laws.FnExactNeedlessClaims", spec := "fnExactNeedlessClaims", apart := false, narrowed := true }
def FnExactNeedlessClaimsUptoSaid : Prop := fnExactNeedlessClaimsUptoRow.holds Try.pinned (OpenSpec.upto fnExactNeedlessClaimsSpec)

/-- 'laws.FnExactWouldSay', WHERE WHAT IT READS IS OF BULK AT MOST 1048576: true; the input reads as it did. -/
def fnExactWouldSayUptoRow : OpenClaim := { program := "ytaangjidkkpogaa", sum := "25b1b52a867c86b09e539d4e3345bf5f4b1f9879151d52f8f529563f879ce9a3", func := "loop.example/g01316/laws.FnExactWouldSay", spec := "fnExactWouldSay", unfollowed := true, recurses := true, apart := false, narrowed := true }
def FnExactWouldSayUptoSaid : Prop := fnExactWouldSayUptoRow.holds Try.pinned (OpenSpec.upto fnExactWouldSaySpec)

end Rows
end Go.Proofs.Ytaangjidkkpogaa
