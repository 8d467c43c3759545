/- The walk of the law FnExactFewestCalls: it answers true and turns nothing that was there. -/
import Derived.Test.YtjmckdnjghnlbaaTools
namespace Go.Proofs.Ytjmckdnjghnlbaa
open Go.ChangeShapes Go.WideShapes Go.ChangeAt Go.RowKit

theorem walkFew (W : World) (a0 : Int) (_w0 : (Lit.int .i64 a0).wf = true) :
    Calls Try.prog 15 #[.int .i64 a0] W fun e w' => e = .returned (.bool true) ∧ Below W.heap.size W w' := by
  rcases (show a0 < 1 ∨ 10 < a0 ∨ a0 = 1 ∨ a0 = 2 ∨ a0 = 3 ∨ (4 ≤ a0 ∧ a0 ≤ 10) by omega) with h | h | rfl | rfl | rfl | h
  · go_enter Try.func15, Try.ntmps15
    go_wp2
    go_ret
    exact ⟨rfl, Below.refl _ _⟩
  · have hd : decide (a0 ≤ 10) = false := by simp; omega
    go_enter Try.func15, Try.ntmps15
    go_wp2
    go_ret
    exact ⟨rfl, Below.refl _ _⟩
  all_goals
    go_enter Try.func15, Try.ntmps15
    go_wp2
    go_ret
    exact ⟨rfl, Below.refl _ _⟩
end Go.Proofs.Ytjmckdnjghnlbaa
