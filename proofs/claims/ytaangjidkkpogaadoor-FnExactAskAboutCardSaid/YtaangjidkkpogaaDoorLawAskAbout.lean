/- The law on AskAbout, walked. -/
import Derived.Test.YtaangjidkkpogaaDoorAk
namespace Go.Proofs.YtaangjidkkpogaaDoor
open Go.ChangeShapes Go.WideShapes Go.ChangeAt Go.RowKit
set_option linter.unusedVariables false

set_option maxRecDepth 20000 in
theorem lawAskAboutS (W : World) (a0 : ByteArray) (_w0 : a0.size ≤ maxLen) (a1 : Int) (_w1 : (Lit.int .i64 a1).wf = true) (a2 : Int) (_w2 : (Lit.int .i64 a2).wf = true) (a3 : Bool) (hs0 : a0.size ≤ 1048576) :
    Calls Tryd.prog 7 #[.string a0, .int .i64 a1, .int .i64 a2, .bool a3] W fun e w' => e = .returned (.bool true) ∧ Below W.heap.size W w' := by
  have hok : ((akB a0 a1 a2 a3) != (akB a0 a1 a2 a3)) = false := by simp
  have hre : ((akR a0 a1 a2 a3) != (akR a0 a1 a2 a3)) = false := by simp
  have hbg0 : decide ((a0.size : Int) > 1048576) = false := by simp; omega
  go_enter Tryd.func7, Tryd.ntmps7
  go_wp2_with fail
  refine (specAK_any W a0 hs0 a1 a2 a3).mono ?_
  rintro e w1 ⟨rfl, bel1⟩
  have s1 := bel1.size
  have b1 : Below W.heap.size W w1 := bel1
  clear bel1
  have hW2 := b1.size
  go_wp2_with fail
  refine (implAK_any w1 a0 hs0 a1 a2 a3).mono ?_
  rintro e w2 ⟨rfl, bel2⟩
  have s2 := bel2.size
  have d2 : Below w1.heap.size w1 w2 := bel2
  clear bel2
  go_wp2_with fail
  go_ret
  exact ⟨rfl, (b1.trans (d2.mono hW2))⟩

set_option maxRecDepth 20000 in
theorem lawAskAbout (W : World) (a0 : ByteArray) (_w0 : a0.size ≤ maxLen) (a1 : Int) (_w1 : (Lit.int .i64 a1).wf = true) (a2 : Int) (_w2 : (Lit.int .i64 a2).wf = true) (a3 : Bool) :
    Calls Tryd.prog 7 #[.string a0, .int .i64 a1, .int .i64 a2, .bool a3] W fun e w' => e = .returned (.bool true) ∧ Below W.heap.size W w' := by
  by_cases hs0 : a0.size ≤ 1048576
  · exact lawAskAboutS W a0 _w0 a1 _w1 a2 _w2 a3 hs0
  · have hbg : decide ((a0.size : Int) > 1048576) = true := by simp; omega
    go_enter Tryd.func7, Tryd.ntmps7
    go_wp2_with fail
    go_ret
    exact ⟨rfl, Below.refl _ _⟩

end Go.Proofs.YtaangjidkkpogaaDoor
