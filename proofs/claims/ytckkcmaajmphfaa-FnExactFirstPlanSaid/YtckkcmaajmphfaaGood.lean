/- Calls of so many friends. -/
import Derived.Test.YtckkcmaajmphfaaGen
namespace Go.Proofs.Ytckkcmaajmphfaa
open Go.ChangeShapes Go.WideShapes Go.ChangeAt Go.RowKit
set_option linter.unusedVariables false

theorem info50 : (Try.prog.info? 50).map (fun i => (i.zero, i.size, i.bytes)) = some (some (.agg #[.int .i64 0, .int .i64 0]), 2, 16) := by kernel_rfl

/-- There is such a number of friends. -/
def frB (f : Int) : Bool := decide (1 ≤ f ∧ f ≤ 10)

/-- This is a call of so many friends. -/
def calB (f a b : Int) : Bool := decide (0 ≤ a ∧ a < b ∧ b < f)

/-- These are calls of so many friends. -/
def gdB (f : Int) (l : List (Int × Int)) : Bool := frB f && decide (l.length ≤ 60) && l.all fun c => calB f c.1 c.2

end Go.Proofs.Ytckkcmaajmphfaa
