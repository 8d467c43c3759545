/- PassedOn, both sides. -/
import Derived.Test.YtaangjidkkpogaaDoorPoI
import Derived.Test.YtaangjidkkpogaaDoorPoS
namespace Go.Proofs.YtaangjidkkpogaaDoor
open Go.ChangeShapes Go.WideShapes Go.ChangeAt Go.RowKit
set_option linter.unusedVariables false


theorem implPO_w (w : World) (s : ByteArray) (hs : s.size ≤ 1048576) (ao : Option Addr) (cap : Nat) (l : List Int) (n : Nat) (Hn : Hid (n = l.length)) (hn : n ≤ 1048576) (hc : NumsAt w ao l) (b : Bool) :
    Calls Tryd.prog 19 #[.string s, .slice ao n cap, .bool b] w fun e w' => e = .returned (.tuple #[.bool (poR s l b), .bool (poB s l b)]) ∧ Below w.heap.size w w' := implPO_any w s hs ao cap l n b Hn hn hc

theorem specPO_w (w : World) (s : ByteArray) (hs : s.size ≤ 1048576) (ao : Option Addr) (cap : Nat) (l : List Int) (n : Nat) (Hn : Hid (n = l.length)) (hn : n ≤ 1048576) (hc : NumsAt w ao l) (b : Bool) :
    Calls Tryd.prog 17 #[.string s, .slice ao n cap, .bool b] w fun e w' => e = .returned (.tuple #[.bool (poR s l b), .bool (poB s l b)]) ∧ Below w.heap.size w w' := specPO_any w s hs ao cap l n b Hn hn hc

end Go.Proofs.YtaangjidkkpogaaDoor
