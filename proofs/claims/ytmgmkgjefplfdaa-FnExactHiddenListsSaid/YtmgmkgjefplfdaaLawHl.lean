/- The walk of the law FnExactHiddenLists: it answers true and turns nothing that was there. -/
import Derived.Test.YtmgmkgjefplfdaaHal
namespace Go.Proofs.Ytmgmkgjefplfdaa
open Go.ChangeShapes Go.WideShapes Go.ChangeAt Go.RowKit
set_option linter.unusedVariables false

set_option maxRecDepth 20000 in
theorem walkHl (W : World) (a0 : Int) (_w0 : (Lit.int .i64 a0).wf = true) (a1 : Int) (_w1 : (Lit.int .i64 a1).wf = true) :
    Calls Try.prog 5 #[.int .i64 a0, .int .i64 a1] W fun e w' => e = .returned (.bool true) ∧ Below W.heap.size W w' := by
  have hok : ((szB a0 a1) != (szB a0 a1)) = false := by simp
  have hre : ((hlR a0 a1) != (hlR a0 a1)) = false := by simp
  go_enter Try.func5, Try.ntmps5
  go_wp2_with fail
  refine (specHL_any W a0 a1).mono ?_
  rintro e w1 ⟨rfl, bel1⟩
  have s1 := bel1.size
  have b1 : Below W.heap.size W w1 := bel1
  clear bel1
  have hW2 := b1.size
  go_wp2_with fail
  refine (implHL_any w1 a0 a1).mono ?_
  rintro e w2 ⟨rfl, bel2⟩
  have s2 := bel2.size
  have d2 : Below w1.heap.size w1 w2 := bel2
  clear bel2
  go_wp2_with fail
  go_ret
  exact ⟨rfl, (b1.trans (d2.mono hW2))⟩

end Go.Proofs.Ytmgmkgjefplfdaa
