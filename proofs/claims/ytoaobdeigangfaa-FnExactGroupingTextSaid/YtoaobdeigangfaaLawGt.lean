/- The walk of the law FnExactGroupingText: it answers true and turns nothing that was there. -/
import Derived.Test.YtoaobdeigangfaaGt
import Derived.Test.YtoaobdeigangfaaOpen
namespace Go.Proofs.Ytoaobdeigangfaa
open Go.ChangeShapes Go.WideShapes Go.ChangeAt Go.RowKit
set_option linter.unusedVariables false


set_option maxRecDepth 20000 in
theorem walkGt (W : World) (o1 : Option Addr) (n1 c1 : Nat) (l1 : List Int) (q1n : n1 = l1.length) (q1m : n1 ≤ 9223372036854775807) (q1c : NumsAt W o1 l1) :
    Calls Try.prog 11 #[.slice o1 n1 c1] W fun e w' => e = .returned (.bool true) ∧ Below W.heap.size W w' := by
  have Hn1 := Lib.hid q1n
  have Hc1 := Lib.hid q1c
  clear q1n q1c
  by_cases hs1 : n1 ≤ 1048576
  · have hok : ((grB l1) != (grB l1)) = false := by simp
    go_enter Try.func11, Try.ntmps11
    go_wp2_with fail
    refine (toIntS_any o1 c1 l1 n1 W Hn1 hs1 Hc1).mono ?_
    rintro e w1 ⟨capy1, rfl, owny1, bel1⟩
    have b1 : Below W.heap.size W w1 := bel1
    clear bel1
    have Oy1 := Lib.hid owny1
    clear owny1
    go_wp2_with fail
    refine (specGt_any w1 _ capy1 l1 n1 Hn1 hs1 (nums_at Oy1.out Hn1.out)).mono ?_
    rintro e w2 ⟨rfl, bel2⟩
    have b2 : Below W.heap.size W w2 := b1.trans (bel2.mono b1.size)
    clear bel2
    go_wp2_with fail
    refine (toIntS_any o1 c1 l1 n1 w2 Hn1 hs1 (Hc1.out.kept b2)).mono ?_
    rintro e w3 ⟨capx1, rfl, ownx1, bel3⟩
    have b3 : Below W.heap.size W w3 := b2.trans (bel3.mono b2.size)
    clear bel3
    have Ox1 := Lib.hid ownx1
    clear ownx1
    go_wp2_with fail
    refine (implGt_any w3 _ capx1 l1 n1 Hn1 hs1 (nums_at Ox1.out Hn1.out)).mono ?_
    rintro e w4 ⟨rfl, bel4⟩
    have b4 : Below W.heap.size W w4 := b3.trans (bel4.mono b3.size)
    have Ox1 := Lib.hid (own_later Ox1.out bel4)
    clear bel4
    go_wp2_with fail
    refine (toIntS_any o1 c1 l1 n1 w4 Hn1 hs1 (Hc1.out.kept b4)).mono ?_
    rintro e w5 ⟨capz1, rfl, ownz1, bel5⟩
    have b5 : Below W.heap.size W w5 := b4.trans (bel5.mono b4.size)
    have Ox1 := Lib.hid (own_later Ox1.out bel5)
    clear bel5
    have Oz1 := Lib.hid ownz1
    clear ownz1
    go_wp2_with fail
    refine (eqIntS_own _ _ l1 n1 n1 w5 Hn1.out Hn1.out (by omega) Ox1.out Oz1.out).mono ?_
    rintro e w6 ⟨rfl, bel6⟩
    have b6 : Below W.heap.size W w6 := b5.trans (bel6.mono b5.size)
    clear bel6
    go_wp2_with fail
    go_ret
    exact ⟨rfl, b6⟩
  · go_enter Try.func11, Try.ntmps11
    go_wp2_with fail
    go_ret
    exact ⟨rfl, Below.refl _ _⟩

end Go.Proofs.Ytoaobdeigangfaa
