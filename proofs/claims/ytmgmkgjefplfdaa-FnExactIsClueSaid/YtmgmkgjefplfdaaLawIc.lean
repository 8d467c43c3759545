/- The walk of the law FnExactIsClue: it answers true and turns nothing that was there. -/
import Derived.Test.YtmgmkgjefplfdaaRc
import Derived.Test.YtmgmkgjefplfdaaCluH
import Derived.Test.YtmgmkgjefplfdaaBox
namespace Go.Proofs.Ytmgmkgjefplfdaa
open Go.ChangeShapes Go.WideShapes Go.ChangeAt Go.RowKit
set_option linter.unusedVariables false

theorem hreB (b : Bool) : (b != b) = false := by simp
set_option maxRecDepth 20000 in
theorem walkIc (W : World) (a0 : Int) (_w0 : (Lit.int .i64 a0).wf = true) (a1 : Int) (_w1 : (Lit.int .i64 a1).wf = true) (X2 Y2 Z2 U2 : Int) :
    Calls Try.prog 3 #[.int .i64 a0, .int .i64 a1, .agg #[.int .i64 X2, .int .i64 Y2, .int .i64 Z2, .int .i64 U2]] W fun e w' => e = .returned (.bool true) ∧ Below W.heap.size W w' := by
  obtain ⟨W0, hW0, hb0, hsW0, rX2⟩ := box1 W #[.int .i64 X2, .int .i64 Y2, .int .i64 Z2, .int .i64 U2] 23
  have HW0 := Lib.hid hW0
  clear hW0
  have HX2 := Lib.hid rX2
  clear rX2
  have hok : ((clueB a0 a1 (X2, Y2, Z2, U2)) != (clueB a0 a1 (X2, Y2, Z2, U2))) = false := by simp
  go_enter Try.func3, Try.ntmps3
  have cx0 : W0.cell? ⟨W.heap.size, 0, none⟩ = some (.int .i64 X2) := cell_of_row _ _ _ _ _ _ HX2.out
  have cx1 : W0.cell? ⟨W.heap.size, 1, none⟩ = some (.int .i64 Y2) := cell_of_row _ _ _ _ _ _ HX2.out
  have cx2 : W0.cell? ⟨W.heap.size, 2, none⟩ = some (.int .i64 Z2) := cell_of_row _ _ _ _ _ _ HX2.out
  have cx3 : W0.cell? ⟨W.heap.size, 3, none⟩ = some (.int .i64 U2) := cell_of_row _ _ _ _ _ _ HX2.out
  go_wp2_with fail
  rw [HW0.out]
  clear cx0 cx1 cx2 cx3
  refine (toClue_any X2 Y2 Z2 U2 W0).mono ?_
  rintro e w1 ⟨rfl, bel1⟩
  have s1 := bel1.size
  have b1 : Below W0.heap.size W0 w1 := bel1
  clear bel1
  go_wp2_with fail
  refine (specIsClue_any w1 a0 a1 (X2, Y2, Z2, U2)).mono ?_
  rintro e w2 ⟨rfl, bel2⟩
  have s2 := bel2.size
  have b2 : Below W0.heap.size W0 w2 := b1.trans (bel2.mono b1.size)
  clear bel2
  have hW2 := b2.size
  have cx0 : w2.cell? ⟨W.heap.size, 0, none⟩ = some (.int .i64 X2) := cell_old b2 (cell_of_row _ _ _ _ _ _ HX2.out)
  have cx1 : w2.cell? ⟨W.heap.size, 1, none⟩ = some (.int .i64 Y2) := cell_old b2 (cell_of_row _ _ _ _ _ _ HX2.out)
  have cx2 : w2.cell? ⟨W.heap.size, 2, none⟩ = some (.int .i64 Z2) := cell_old b2 (cell_of_row _ _ _ _ _ _ HX2.out)
  have cx3 : w2.cell? ⟨W.heap.size, 3, none⟩ = some (.int .i64 U2) := cell_old b2 (cell_of_row _ _ _ _ _ _ HX2.out)
  go_wp2_with fail
  clear cx0 cx1 cx2 cx3
  refine (toClue_any X2 Y2 Z2 U2 w2).mono ?_
  rintro e w3 ⟨rfl, bel3⟩
  have s3 := bel3.size
  have d3 : Below w2.heap.size w2 w3 := bel3
  clear bel3
  go_wp2_with fail
  refine (implIsClue_any w3 a0 a1 (X2, Y2, Z2, U2)).mono ?_
  rintro e w4 ⟨rfl, bel4⟩
  have s4 := bel4.size
  have d4 : Below w2.heap.size w2 w4 := d3.trans (bel4.mono d3.size)
  clear bel4
  go_wp2_with fail
  go_ret
  exact ⟨rfl, hb0.trans ((b2.trans (d4.mono hW2)).mono hb0.size)⟩

end Go.Proofs.Ytmgmkgjefplfdaa
