/- Puzzles opened. -/
import Derived.Test.YtmgmkgjefplfdaaOpen
namespace Go.Proofs.Ytmgmkgjefplfdaa
open Go.ChangeShapes Go.WideShapes Go.ChangeAt Go.RowKit Go.Deep
set_option linter.unusedVariables false


theorem cellsLP : Try.prog.cellsOf 30 = 3 := by kernel_rfl

end Go.Proofs.Ytmgmkgjefplfdaa
