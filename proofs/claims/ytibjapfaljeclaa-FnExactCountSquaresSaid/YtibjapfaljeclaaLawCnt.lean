/- The walk of the law FnExactCountSquares: it answers true and turns nothing that was there. -/
import Derived.Test.YtibjapfaljeclaaSqC
import Derived.Test.YtibjapfaljeclaaOpen
namespace Go.Proofs.Ytibjapfaljeclaa
open Go.ChangeShapes Go.WideShapes Go.ChangeAt Go.RowKit
set_option linter.unusedVariables false

set_option maxRecDepth 20000 in
theorem walkCnt (W : World) (a0 : Int) (_w0 : (Lit.int .i64 a0).wf = true) (o1 : Option Addr) (n1 c1 : Nat) (l1 : List (Int × Int)) (q1n : n1 = l1.length) (q1m : n1 ≤ 9223372036854775807) (q1c : CallsAt W o1 l1) :
    Calls Try.prog 5 #[.int .i64 a0, .slice o1 n1 c1] W fun e w' => e = .returned (.bool true) ∧ Below W.heap.size W w' := by
  have Hn1 := Lib.hid q1n
  have Hc1 := Lib.hid q1c
  clear q1n q1c
  by_cases hs1 : n1 ≤ 1048576
  · go_enter Try.func5, Try.ntmps5
    go_wp2_with fail
    refine (szCallS_small o1 n1 c1 W hs1).mono ?_
    rintro e w' ⟨rfl, rfl⟩
    go_wp2_with fail
    refine (toCallS_any o1 c1 l1 n1 W Hn1 hs1 Hc1).mono ?_
    rintro e w1 ⟨capy1, rfl, owny1, bel1⟩
    have b1 : Below W.heap.size W w1 := bel1
    clear bel1
    have Hy1 : W.heap.size ≤ W.heap.size := Nat.le_refl _
    have Oy1 := Lib.hid owny1
    clear owny1
    go_wp2_with fail
    refine (specCnt_any w1 a0 _ capy1 l1 n1 Hn1 hs1 (own_at Oy1.out Hn1.out)).mono ?_
    rintro e w2 ⟨rfl, bel2⟩
    have b2 : Below W.heap.size W w2 := b1.trans (bel2.mono b1.size)
    have Oy1 := Lib.hid (own_later Oy1.out bel2)
    clear bel2
    go_wp2_with fail
    refine (toCallS_any o1 c1 l1 n1 w2 Hn1 hs1 (Hc1.out.kept b2)).mono ?_
    rintro e w3 ⟨capx1, rfl, ownx1, bel3⟩
    have b3 : Below W.heap.size W w3 := b2.trans (bel3.mono b2.size)
    clear bel3
    have Hx1 : W.heap.size ≤ w2.heap.size := b2.size
    have Ox1 := Lib.hid ownx1
    clear ownx1
    have hok : ((netB a0 l1) != (netB a0 l1)) = false := by simp
    go_wp2_with fail
    refine (implCnt_any w3 a0 _ capx1 l1 n1 Hn1 hs1 (own_at Ox1.out Hn1.out)).mono ?_
    rintro e w4 ⟨rfl, bel4⟩
    have b4 : Below W.heap.size W w4 := b3.trans (bel4.mono b3.size)
    have Ox1 := Lib.hid (own_later Ox1.out bel4)
    clear bel4
    have hre : ((cntR a0 l1) != (cntR a0 l1)) = false := by simp
    have OOx1 := Ox1
    go_wp2_with fail
    refine (toCallS_any o1 c1 l1 n1 w4 Hn1 hs1 (Hc1.out.kept b4)).mono ?_
    rintro e w5 ⟨capz1, rfl, ownz1, bel5⟩
    have b5 : Below W.heap.size W w5 := b4.trans (bel5.mono b4.size)
    have Ox1 := Lib.hid (own_later Ox1.out bel5)
    clear bel5
    have Hz1 : W.heap.size ≤ w4.heap.size := b4.size
    have Oz1 := Lib.hid ownz1
    clear ownz1
    have Ax1z1 := Lib.hid (apart_of OOx1.out Oz1.out)
    have Az1x1 := Lib.hid (apart_of' OOx1.out Oz1.out)
    go_wp2_with fail
    refine (eqCallS_own _ _ l1 n1 n1 w5 Hn1.out Hn1.out (by omega) Ox1.out Oz1.out).mono ?_
    rintro e w6 ⟨rfl, bel6⟩
    have b6 : Below W.heap.size W w6 := b5.trans (bel6.mono b5.size)
    have Ox1 := Lib.hid (own_later Ox1.out bel6)
    have Oz1 := Lib.hid (own_later Oz1.out bel6)
    clear bel6
    go_wp2_with fail
    go_ret
    exact ⟨rfl, b6⟩
  · go_enter Try.func5, Try.ntmps5
    go_wp2_with fail
    refine (szCallS_great o1 n1 c1 W (by omega) q1m).mono ?_
    rintro e w' ⟨rfl, rfl⟩
    go_wp2_with fail
    go_ret
    exact ⟨rfl, Below.refl _ _⟩

end Go.Proofs.Ytibjapfaljeclaa
