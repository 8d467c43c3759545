/- The walk of the law FnExactCountGroupings: it answers true and turns nothing that was there. -/
import Derived.Test.YtoaobdeigangfaaCgI
import Derived.Test.YtoaobdeigangfaaCgS
import Derived.Test.YtoaobdeigangfaaOpen
namespace Go.Proofs.Ytoaobdeigangfaa
open Go.ChangeShapes Go.WideShapes Go.ChangeAt Go.RowKit
set_option linter.unusedVariables false

set_option maxRecDepth 20000 in
theorem walkCg (W : World) (a0 : Int) (_w0 : (Lit.int .i64 a0).wf = true) :
    Calls Try.prog 6 #[.int .i64 a0] W fun e w' => e = .returned (.bool true) ∧ Below W.heap.size W w' := by
  go_enter Try.func6, Try.ntmps6
  go_wp2_with fail
  refine (specCg_any W a0).mono ?_
  rintro e w1 ⟨rfl, bel1⟩
  have b1 : Below W.heap.size W w1 := bel1
  clear bel1
  have hok : ((wiB a0) != (wiB a0)) = false := by simp
  go_wp2_with fail
  refine (implCg_any w1 a0).mono ?_
  rintro e w2 ⟨rfl, bel2⟩
  have b2 : Below W.heap.size W w2 := b1.trans (bel2.mono b1.size)
  clear bel2
  have hre : ((bell a0) != (bell a0)) = false := by simp
  go_wp2_with fail
  go_ret
  exact ⟨rfl, b2⟩

end Go.Proofs.Ytoaobdeigangfaa
