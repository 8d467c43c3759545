/-
  NARROWER THAN 'FOR EVERY INPUT', by the rows' own cells (each row's printed sentence says how): FnExactFitsClaims: laid · FnExactClaimsOfCast: laid · FnExactPassedOn: laid · FnExactPathsHeard: laid · FnExactAskAbout: laid.
  DERIVED. THE GIVEN ROWS OF THIS SEAT. 5 by the template 'for every input the law returns true; each argument reads behind the call as it read before'; 0 by the template 'total and deterministic' (their statements: YtaangjidkkpogaaDoorTotals.lean).
  GIVEN WITH THE SEED: the statements are not yours to turn. If you find one false, say at which input.
  Laid BY PROGRAM, IN A SANDBOX (cutbox-rows.mjs): the forced cells as the released guide's own fill.sh prints them over the translation 6b835ece44f469d6… (all of the seat's roots in one cut). By AI agents, Wed Nov 11 2026. No macro, syntax, notation, axiom, sorry.
-/
import Derived.Test.YtaangjidkkpogaaDoorChecked
import GoSem.PinnedTables
import GoSem.Claim
import GoSem.ClaimJoined
import GoSem.ClaimMapViews
import Derived.JoinedTies
import Derived.KernelRfl
namespace Go.Proofs.YtaangjidkkpogaaDoor
/- THE CELL 'sum', in the pinned program and in every row, IS THE sha256 OF THE DUMP (.gsa) THAT YtaangjidkkpogaaDoorProg.lean LOADS. Nothing in Lean hashes anything: it is a label: what it is worth is what the hold of that sum in a sandbox is worth. -/
noncomputable def Tryd.pinned : Pinned := { name := "ytaangjidkkpogaadoor", sum := "6b835ece44f469d6b5c56537a06db9cf1b206d8040916718f12eba75c7a512b2", checked := Tryd.checked }
namespace Rows
def none {H : Type} : Left H := { results := [], args := [] }

/- WHAT THE LISTED PACKAGE-LEVEL VARIABLES READ AS WHEN THE CALL BEGINS. Each datum BY PROGRAM (the guide's laid-datum.mjs) off the statement by which the dump's own 'gosem.cut.vars' lays the variable. In a bare row this is a premise. The card (YtaangjidkkpogaaDoorCards.lean) ties it to the program's text. -/
def laid_unicode_utf8_acceptRanges {H : Type} : DataW H := .agg [.agg [.lit (.int .u8 128), .lit (.int .u8 191)], .agg [.lit (.int .u8 160), .lit (.int .u8 191)], .agg [.lit (.int .u8 128), .lit (.int .u8 159)], .agg [.lit (.int .u8 144), .lit (.int .u8 191)], .agg [.lit (.int .u8 128), .lit (.int .u8 143)], .agg [.lit (.int .u8 0), .lit (.int .u8 0)], .agg [.lit (.int .u8 0), .lit (.int .u8 0)], .agg [.lit (.int .u8 0), .lit (.int .u8 0)], .agg [.lit (.int .u8 0), .lit (.int .u8 0)], .agg [.lit (.int .u8 0), .lit (.int .u8 0)], .agg [.lit (.int .u8 0), .lit (.int .u8 0)], .agg [.lit (.int .u8 0), .lit (.int .u8 0)], .agg [.lit (.int .u8 0), .lit (.int .u8 0)], .agg [.lit (.int .u8 0), .lit (.int .u8 0)], .agg [.lit (.int .u8 0), .lit (.int .u8 0)], .agg [.lit (.int .u8 0), .lit (.int .u8 0)]]
/-- One of Go's own tables, pinned by name: the form's constant. -/
def laid_unicode_utf8_first : DataW Unit := Go.Pinned.utf8First

/-- 'laws.FnExactFitsClaims': WHATEVER THE INPUT: true; the input reads as it did. -/
def fnExactFitsClaimsSpec : ChangeSpec := { name := "fnExactFitsClaims", fn := fun _ => fun
  | [d1, d2, d3] => { results := [.lit (.bool true)], args := [d1, d2, d3] }
  | _ => none }
def fnExactFitsClaimsRow : OpenClaim := { program := "ytaangjidkkpogaadoor", sum := "6b835ece44f469d6b5c56537a06db9cf1b206d8040916718f12eba75c7a512b2", func := "loop.example/g01316/laws.FnExactFitsClaims", spec := "fnExactFitsClaims", inPlace := ["internal/bytealg.IndexByteString", "internal/bytealg.IndexString"], named := ["unicode/utf8.first", "unicode/utf8.acceptRanges", "internal/bytealg.MaxLen"], apart := false, laid := [("unicode/utf8.acceptRanges", laid_unicode_utf8_acceptRanges), ("unicode/utf8.first", laid_unicode_utf8_first)] }
def FnExactFitsClaimsSaid : Prop := fnExactFitsClaimsRow.holds Tryd.pinned (OpenSpec.ofChange fnExactFitsClaimsSpec)

/-- ITS FALSE NEIGHBOUR: 'it returns false'. Refute it at one input. -/
def fnExactFitsClaimsWrong : ChangeSpec := { name := "fnExactFitsClaims", fn := fun _ => fun
  | [d1, d2, d3] => { results := [.lit (.bool false)], args := [d1, d2, d3] }
  | _ => none }
def FnExactFitsClaimsWrongFalsely : Prop := fnExactFitsClaimsRow.holds Tryd.pinned (OpenSpec.ofChange fnExactFitsClaimsWrong)

/-- 'laws.FnExactClaimsOfCast': WHATEVER THE INPUT: true; the input reads as it did. -/
def fnExactClaimsOfCastSpec : ChangeSpec := { name := "fnExactClaimsOfCast", fn := fun _ => fun
  | [d] => { results := [.lit (.bool true)], args := [d] }
  | _ => none }
def fnExactClaimsOfCastRow : OpenClaim := { program := "ytaangjidkkpogaadoor", sum := "6b835ece44f469d6b5c56537a06db9cf1b206d8040916718f12eba75c7a512b2", func := "loop.example/g01316/laws.FnExactClaimsOfCast", spec := "fnExactClaimsOfCast", inPlace := ["internal/bytealg.IndexByteString", "internal/bytealg.IndexString"], named := ["unicode/utf8.first", "unicode/utf8.acceptRanges", "internal/bytealg.MaxLen"], apart := false, laid := [("unicode/utf8.acceptRanges", laid_unicode_utf8_acceptRanges), ("unicode/utf8.first", laid_unicode_utf8_first)] }
def FnExactClaimsOfCastSaid : Prop := fnExactClaimsOfCastRow.holds Tryd.pinned (OpenSpec.ofChange fnExactClaimsOfCastSpec)

/-- ITS FALSE NEIGHBOUR: 'it returns false'. Refute it at one input. -/
def fnExactClaimsOfCastWrong : ChangeSpec := { name := "fnExactClaimsOfCast", fn := fun _ => fun
  | [d] => { results := [.lit (.bool false)], args := [d] }
  | _ => none }
def FnExactClaimsOfCastWrongFalsely : Prop := fnExactClaimsOfCastRow.holds Tryd.pinned (OpenSpec.ofChange fnExactClaimsOfCastWrong)

/-- 'laws.FnExactPassedOn': WHATEVER THE INPUT: true; the input reads as it did. -/
def fnExactPassedOnSpec : ChangeSpec := { name := "fnExactPassedOn", fn := fun _ => fun
  | [d1, d2, d3] => { results := [.lit (.bool true)], args := [d1, d2, d3] }
  | _ => none }
def fnExactPassedOnRow : OpenClaim := { program := "ytaangjidkkpogaadoor", sum := "6b835ece44f469d6b5c56537a06db9cf1b206d8040916718f12eba75c7a512b2", func := "loop.example/g01316/laws.FnExactPassedOn", spec := "fnExactPassedOn", inPlace := ["internal/bytealg.IndexByteString", "internal/bytealg.IndexString"], named := ["unicode/utf8.first", "unicode/utf8.acceptRanges", "internal/bytealg.MaxLen"], apart := false, laid := [("unicode/utf8.acceptRanges", laid_unicode_utf8_acceptRanges), ("unicode/utf8.first", laid_unicode_utf8_first)] }
def FnExactPassedOnSaid : Prop := fnExactPassedOnRow.holds Tryd.pinned (OpenSpec.ofChange fnExactPassedOnSpec)

/-- ITS FALSE NEIGHBOUR: 'it returns false'. Refute it at one input. -/
def fnExactPassedOnWrong : ChangeSpec := { name := "fnExactPassedOn", fn := fun _ => fun
  | [d1, d2, d3] => { results := [.lit (.bool false)], args := [d1, d2, d3] }
  | _ => none }
def FnExactPassedOnWrongFalsely : Prop := fnExactPassedOnRow.holds Tryd.pinned (OpenSpec.ofChange fnExactPassedOnWrong)

/-- 'laws.FnExactPathsHeard': WHATEVER THE INPUT: true; the input reads as it did. -/
def fnExactPathsHeardSpec : ChangeSpec := { name := "fnExactPathsHeard", fn := fun _ => fun
  | [d1, d2, d3] => { results := [.lit (.bool true)], args := [d1, d2, d3] }
  | _ => none }
def fnExactPathsHeardRow : OpenClaim := { program := "ytaangjidkkpogaadoor", sum := "6b835ece44f469d6b5c56537a06db9cf1b206d8040916718f12eba75c7a512b2", func := "loop.example/g01316/laws.FnExactPathsHeard", spec := "fnExactPathsHeard", inPlace := ["internal/bytealg.IndexByteString", "internal/bytealg.IndexString"], recurses := true, named := ["unicode/utf8.first", "unicode/utf8.acceptRanges", "internal/bytealg.MaxLen"], apart := false, laid := [("unicode/utf8.acceptRanges", laid_unicode_utf8_acceptRanges), ("unicode/utf8.first", laid_unicode_utf8_first)] }
def FnExactPathsHeardSaid : Prop := fnExactPathsHeardRow.holds Tryd.pinned (OpenSpec.ofChange fnExactPathsHeardSpec)

/-- ITS FALSE NEIGHBOUR: 'it returns false'. Refute it at one input. -/
def fnExactPathsHeardWrong : ChangeSpec := { name := "fnExactPathsHeard", fn := fun _ => fun
  | [d1, d2, d3] => { results := [.lit (.bool false)], args := [d1, d2, d3] }
  | _ => none }
def FnExactPathsHeardWrongFalsely : Prop := fnExactPathsHeardRow.holds Tryd.pinned (OpenSpec.ofChange fnExactPathsHeardWrong)

/-- 'laws.FnExactAskAbout': WHATEVER THE INPUT: true; the input reads as it did. -/
def fnExactAskAboutSpec : ChangeSpec := { name := "fnExactAskAbout", fn := fun _ => fun
  | [d1, d2, d3, d4] => { results := [.lit (.bool true)], args := [d1, d2, d3, d4] }
  | _ => none }
def fnExactAskAboutRow : OpenClaim := { program := "ytaangjidkkpogaadoor", sum := "6b835ece44f469d6b5c56537a06db9cf1b206d8040916718f12eba75c7a512b2", func := "loop.example/g01316/laws.FnExactAskAbout", spec := "fnExactAskAbout", inPlace := ["internal/bytealg.IndexByteString", "internal/bytealg.IndexString"], named := ["unicode/utf8.first", "unicode/utf8.acceptRanges", "internal/bytealg.MaxLen"], apart := false, laid := [("unicode/utf8.acceptRanges", laid_unicode_utf8_acceptRanges), ("unicode/utf8.first", laid_unicode_utf8_first)] }
def FnExactAskAboutSaid : Prop := fnExactAskAboutRow.holds Tryd.pinned (OpenSpec.ofChange fnExactAskAboutSpec)

/-- ITS FALSE NEIGHBOUR: 'it returns false'. Refute it at one input. -/
def fnExactAskAboutWrong : ChangeSpec := { name := "fnExactAskAbout", fn := fun _ => fun
  | [d1, d2, d3, d4] => { results := [.lit (.bool false)], args := [d1, d2, d3, d4] }
  | _ => none }
def FnExactAskAboutWrongFalsely : Prop := fnExactAskAboutRow.holds Tryd.pinned (OpenSpec.ofChange fnExactAskAboutWrong)

/- THE SECOND FORM. 'bulk': how many values and letters a reading holds, each counted each time it is reached (what is shared counts as often as it is met; a slice's spare places count too). A statement '..UptoSaid' is the law's where the arguments, and the package variables that the reading takes, are together of bulk at most 1048576: NARROWER than '..Said'. Prove '..Said' where nothing that the law and all that it calls make is longer than what came in: it says more and counts as full. Else prove '..UptoSaid'. A law counts once. -/
mutual
def uptoBulk {H : Type} : DataW H → Nat
  | .lit (.string bytes) => bytes.length + 1
  | .lit _ => 1
  | .nil => 1
  | .ptr d => uptoBulk d + 1
  | .slice elems spare => uptoBulkAll elems + uptoBulkAll spare + 1
  | .agg parts => uptoBulkAll parts + 1
  | .iface _ d => uptoBulk d + 1
  | .map entries => uptoBulkEntries entries + 1
  | .held _ => 1
def uptoBulkAll {H : Type} : List (DataW H) → Nat
  | [] => 0
  | d :: r => uptoBulk d + uptoBulkAll r
def uptoBulkEntries {H : Type} : List (Lit × DataW H) → Nat
  | [] => 0
  | x :: r => uptoBulkEntry x + uptoBulkEntries r
def uptoBulkEntry {H : Type} : Lit × DataW H → Nat
  | (.string bytes, d) => bytes.length + uptoBulk d + 1
  | (_, d) => uptoBulk d + 1
 end
def uptoSmall : (H : Type) → List (DataW H) → Bool := fun _ ds => decide (uptoBulkAll ds ≤ 1048576)
def OpenSpec.upto (s : _root_.Go.ChangeSpec) : _root_.Go.OpenSpec := { _root_.Go.OpenSpec.ofChange s with cond := some uptoSmall }

/-- 'laws.FnExactFitsClaims', WHERE WHAT IT READS IS OF BULK AT MOST 1048576: true; the input reads as it did. -/
def fnExactFitsClaimsUptoRow : OpenClaim := { program := "ytaangjidkkpogaadoor", sum := "6b835ece44f469d6b5c56537a06db9cf1b206d8040916718f12eba75c7a512b2", func := "loop.example/g01316/laws.FnExactFitsClaims", spec := "fnExactFitsClaims", inPlace := ["internal/bytealg.IndexByteString", "internal/bytealg.IndexString"], named := ["unicode/utf8.first", "unicode/utf8.acceptRanges", "internal/bytealg.MaxLen"], apart := false, laid := [("unicode/utf8.acceptRanges", laid_unicode_utf8_acceptRanges), ("unicode/utf8.first", laid_unicode_utf8_first)], narrowed := true }
def FnExactFitsClaimsUptoSaid : Prop := fnExactFitsClaimsUptoRow.holds Tryd.pinned (OpenSpec.upto fnExactFitsClaimsSpec)

/-- 'laws.FnExactClaimsOfCast', WHERE WHAT IT READS IS OF BULK AT MOST 1048576: true; the input reads as it did. -/
def fnExactClaimsOfCastUptoRow : OpenClaim := { program := "ytaangjidkkpogaadoor", sum := "6b835ece44f469d6b5c56537a06db9cf1b206d8040916718f12eba75c7a512b2", func := "loop.example/g01316/laws.FnExactClaimsOfCast", spec := "fnExactClaimsOfCast", inPlace := ["internal/bytealg.IndexByteString", "internal/bytealg.IndexString"], named := ["unicode/utf8.first", "unicode/utf8.acceptRanges", "internal/bytealg.MaxLen"], apart := false, laid := [("unicode/utf8.acceptRanges", laid_unicode_utf8_acceptRanges), ("unicode/utf8.first", laid_unicode_utf8_first)], narrowed := true }
def FnExactClaimsOfCastUptoSaid : Prop := fnExactClaimsOfCastUptoRow.holds Tryd.pinned (OpenSpec.upto fnExactClaimsOfCastSpec)

/-- 'laws.FnExactPassedOn', WHERE WHAT IT READS IS OF BULK AT MOST 1048576: true; the input reads as it did. -/
def fnExactPassedOnUptoRow : OpenClaim := { program := "ytaangjidkkpogaadoor", sum := "6b835ece44f469d6b5c56537a06db9cf1b206d8040916718f12eba75c7a512b2", func := "loop.example/g01316/laws.FnExactPassedOn", spec := "fnExactPassedOn", inPlace := ["internal/bytealg.IndexByteString", "internal/bytealg.IndexString"], named := ["unicode/utf8.first", "unicode/utf8.acceptRanges", "internal/bytealg.MaxLen"], apart := false, laid := [("unicode/utf8.acceptRanges", laid_unicode_utf8_acceptRanges), ("unicode/utf8.first", laid_unicode_utf8_first)], narrowed := true }
def FnExactPassedOnUptoSaid : Prop := fnExactPassedOnUptoRow.holds Tryd.pinned (OpenSpec.upto fnExactPassedOnSpec)

/-- 'laws.FnExactPathsHeard', WHERE WHAT IT READS IS OF BULK AT MOST 1048576: true; the input reads as it did. -/
def fnExactPathsHeardUptoRow : OpenClaim := { program := "ytaangjidkkpogaadoor", sum := "6b835ece44f469d6b5c56537a06db9cf1b206d8040916718f12eba75c7a512b2", func := "loop.example/g01316/laws.FnExactPathsHeard", spec := "fnExactPathsHeard", inPlace := ["internal/bytealg.IndexByteString", "internal/bytealg.IndexString"], recurses := true, named := ["unicode/utf8.first", "unicode/utf8.acceptRanges", "internal/bytealg.MaxLen"], apart := false, laid := [("unicode/utf8.acceptRanges", laid_unicode_utf8_acceptRanges), ("unicode/utf8.first", laid_unicode_utf8_first)], narrowed := true }
def FnExactPathsHeardUptoSaid : Prop := fnExactPathsHeardUptoRow.holds Tryd.pinned (OpenSpec.upto fnExactPathsHeardSpec)

/-- 'laws.FnExactAskAbout', WHERE WHAT IT READS IS OF BULK AT MOST 1048576: true; the input reads as it did. -/
def fnExactAskAboutUptoRow : OpenClaim := { program := "ytaangjidkkpogaadoor", sum := "6b835ece44f469d6b5c56537a06db9cf1b206d8040916718f12eba75c7a512b2", func := "loop.example/g01316/laws.FnExactAskAbout", spec := "fnExactAskAbout", inPlace := ["internal/bytealg.IndexByteString", "internal/bytealg.IndexString"], named := ["unicode/utf8.first", "unicode/utf8.acceptRanges", "internal/bytealg.MaxLen"], apart := false, laid := [("unicode/utf8.acceptRanges", laid_unicode_utf8_acceptRanges), ("unicode/utf8.first", laid_unicode_utf8_first)], narrowed := true }
def FnExactAskAboutUptoSaid : Prop := fnExactAskAboutUptoRow.holds Tryd.pinned (OpenSpec.upto fnExactAskAboutSpec)

end Rows
end Go.Proofs.YtaangjidkkpogaaDoor
