/- The walk of the law FnExactDoesFit. -/
import Derived.Test.YtmgmkgjefplfdaaDf
import Derived.Test.YtmgmkgjefplfdaaAbv
namespace Go.Proofs.Ytmgmkgjefplfdaa
open Go.ChangeShapes Go.WideShapes Go.ChangeAt Go.RowKit
set_option linter.unusedVariables false

set_option maxRecDepth 20000 in
theorem walkDfS (W : World) (a0 : Int) (_w0 : (Lit.int .i64 a0).wf = true) (X1 Y1 Z1 U1 : Int) (o2 : Option Addr) (n2 c2 : Nat) (l2 : List (Int × Int)) (q2n : n2 = l2.length) (q2m : n2 ≤ 9223372036854775807) (q2c : CallsAt W o2 l2) (hs2 : n2 ≤ 1048576) :
    Calls Try.prog 6 #[.int .i64 a0, .agg #[.int .i64 X1, .int .i64 Y1, .int .i64 Z1, .int .i64 U1], .slice o2 n2 c2] W fun e w' => e = .returned (.bool true) ∧ Below W.heap.size W w' := by
  obtain ⟨W0, hW0, hb0, hsW0, rX1⟩ := box1 W #[.int .i64 X1, .int .i64 Y1, .int .i64 Z1, .int .i64 U1] 23
  have HW0 := Lib.hid hW0
  clear hW0
  have HX1 := Lib.hid rX1
  clear rX1
  have Hn2 := Lib.hid q2n
  have Hc2 := Lib.hid (q2c.kept hb0)
  clear q2n q2c
  have hok : ((dfB a0 (X1, Y1, Z1, U1) l2) != (dfB a0 (X1, Y1, Z1, U1) l2)) = false := by simp
  have hre : ((dfR a0 (X1, Y1, Z1, U1) l2) != (dfR a0 (X1, Y1, Z1, U1) l2)) = false := by simp
  go_enter Try.func6, Try.ntmps6
  have hdl2 : decide ((1048576 : Int) - (n2 : Int) < 0) = false := by simp; omega
  go_wp2_with fail
  rw [HW0.out]
  refine (szCall_fit o2 n2 c2 W0 hs2).mono ?_
  rintro e w' ⟨rfl, rfl⟩
  have cx0 : W0.cell? ⟨W.heap.size, 0, none⟩ = some (.int .i64 X1) := cell_of_row _ _ _ _ _ _ HX1.out
  have cx1 : W0.cell? ⟨W.heap.size, 1, none⟩ = some (.int .i64 Y1) := cell_of_row _ _ _ _ _ _ HX1.out
  have cx2 : W0.cell? ⟨W.heap.size, 2, none⟩ = some (.int .i64 Z1) := cell_of_row _ _ _ _ _ _ HX1.out
  have cx3 : W0.cell? ⟨W.heap.size, 3, none⟩ = some (.int .i64 U1) := cell_of_row _ _ _ _ _ _ HX1.out
  go_wp2_with fail
  clear cx0 cx1 cx2 cx3
  refine (toClue_any X1 Y1 Z1 U1 W0).mono ?_
  rintro e w1 ⟨rfl, bel1⟩
  have s1 := bel1.size
  have b1 : Below W0.heap.size W0 w1 := bel1
  clear bel1
  go_wp2_with fail
  refine (toCallS_any o2 c2 l2 n2 w1 Hn2 hs2 (Hc2.out.kept b1)).mono ?_
  rintro e w2 ⟨capy2, rfl, owny2, bel2⟩
  have s2 := bel2.size
  have b2 : Below W0.heap.size W0 w2 := b1.trans (bel2.mono b1.size)
  have Oy2 := Lib.hid owny2
  clear owny2 bel2
  go_wp2_with fail
  refine (specDF_any w2 a0 (X1, Y1, Z1, U1) _ capy2 l2 n2 Hn2 hs2 (own_cap2 Oy2.out) (own_at Oy2.out Hn2.out)).mono ?_
  rintro e w3 ⟨rfl, bel3⟩
  have s3 := bel3.size
  have b3 : Below W0.heap.size W0 w3 := b2.trans (bel3.mono b2.size)
  have Oy2 := Lib.hid (own_later Oy2.out bel3)
  clear bel3
  clear Oy2
  have hW2 := b3.size
  go_wp2_with fail
  refine (toCallS_any o2 c2 l2 n2 w3 Hn2 hs2 (Hc2.out.kept b3)).mono ?_
  rintro e w4 ⟨capx2, rfl, ownx2, bel4⟩
  have s4 := bel4.size
  have d4 : Below w3.heap.size w3 w4 := bel4
  have Ox2 := Lib.hid ownx2
  clear ownx2 bel4
  have OX2 := Ox2
  have cx0 : w4.cell? ⟨W.heap.size, 0, none⟩ = some (.int .i64 X1) := cell_old (b3.trans (d4.mono hW2)) (cell_of_row _ _ _ _ _ _ HX1.out)
  have cx1 : w4.cell? ⟨W.heap.size, 1, none⟩ = some (.int .i64 Y1) := cell_old (b3.trans (d4.mono hW2)) (cell_of_row _ _ _ _ _ _ HX1.out)
  have cx2 : w4.cell? ⟨W.heap.size, 2, none⟩ = some (.int .i64 Z1) := cell_old (b3.trans (d4.mono hW2)) (cell_of_row _ _ _ _ _ _ HX1.out)
  have cx3 : w4.cell? ⟨W.heap.size, 3, none⟩ = some (.int .i64 U1) := cell_old (b3.trans (d4.mono hW2)) (cell_of_row _ _ _ _ _ _ HX1.out)
  go_wp2_with fail
  clear cx0 cx1 cx2 cx3
  refine (toClue_any X1 Y1 Z1 U1 w4).mono ?_
  rintro e w5 ⟨rfl, bel5⟩
  have s5 := bel5.size
  have d5 : Below w3.heap.size w3 w5 := d4.trans (bel5.mono d4.size)
  have Ox2 := Lib.hid (own_later Ox2.out bel5)
  clear bel5
  go_wp2_with fail
  refine (implDF_any w5 a0 (X1, Y1, Z1, U1) _ capx2 l2 n2 Hn2 hs2 (own_cap2 Ox2.out) (own_at Ox2.out Hn2.out)).mono ?_
  rintro e w6 ⟨rfl, bel6⟩
  have s6 := bel6.size
  have d6 : Below w3.heap.size w3 w6 := d5.trans (bel6.mono d5.size)
  have Ox2 := Lib.hid (own_later Ox2.out bel6)
  clear bel6
  go_wp2_with fail
  refine (toCallS_any o2 c2 l2 n2 w6 Hn2 hs2 (Hc2.out.kept (b3.trans (d6.mono hW2)))).mono ?_
  rintro e w7 ⟨capz2, rfl, ownz2, bel7⟩
  have s7 := bel7.size
  have d7 : Below w3.heap.size w3 w7 := d6.trans (bel7.mono d6.size)
  have Ox2 := Lib.hid (own_later Ox2.out bel7)
  have Oz2 := Lib.hid ownz2
  clear ownz2 bel7
  go_wp2_with fail
  refine (eqCallS_own _ _ l2 n2 n2 w7 Hn2.out Hn2.out (by omega) Ox2.out Oz2.out).mono ?_
  rintro e w8 ⟨rfl, bel8⟩
  have s8 := bel8.size
  have d8 : Below w3.heap.size w3 w8 := d7.trans (bel8.mono d7.size)
  have Ox2 := Lib.hid (own_later Ox2.out bel8)
  clear bel8 Oz2
  go_wp2_with fail
  go_ret
  exact ⟨rfl, hb0.trans ((b3.trans (d8.mono hW2)).mono hb0.size)⟩

set_option maxRecDepth 20000 in
theorem walkDf (W : World) (a0 : Int) (_w0 : (Lit.int .i64 a0).wf = true) (X1 Y1 Z1 U1 : Int) (o2 : Option Addr) (n2 c2 : Nat) (l2 : List (Int × Int)) (q2n : n2 = l2.length) (q2m : n2 ≤ 9223372036854775807) (q2c : CallsAt W o2 l2) :
    Calls Try.prog 6 #[.int .i64 a0, .agg #[.int .i64 X1, .int .i64 Y1, .int .i64 Z1, .int .i64 U1], .slice o2 n2 c2] W fun e w' => e = .returned (.bool true) ∧ Below W.heap.size W w' := by
  by_cases hs : n2 ≤ 1048576
  · exact walkDfS W a0 _w0 X1 Y1 Z1 U1 o2 n2 c2 l2 q2n q2m q2c hs
  · have Hn := Lib.hid q2n
    clear q2n q2c
    go_enter Try.func6, Try.ntmps6
    go_wp2_with fail
    refine (szCall_over o2 n2 c2 _ (by omega) q2m).mono ?_
    rintro e w' ⟨rfl, rfl⟩
    go_wp2_with fail
    go_ret
    exact ⟨rfl, (Below.refl _ _).alloc (Nat.le_refl _) _⟩

end Go.Proofs.Ytmgmkgjefplfdaa
