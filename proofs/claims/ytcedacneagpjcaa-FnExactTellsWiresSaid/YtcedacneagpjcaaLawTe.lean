/- The walk of the law FnExactTellsWires: it answers true and turns nothing that was there. -/
import Derived.Test.YtcedacneagpjcaaTe
import Derived.Test.YtcedacneagpjcaaOpen
namespace Go.Proofs.Ytcedacneagpjcaa
open Go.ChangeShapes Go.WideShapes Go.ChangeAt Go.RowKit
set_option linter.unusedVariables false

set_option maxRecDepth 20000 in
theorem walkTe (W : World) (o0 : Option Addr) (n0 c0 : Nat) (l0 : List (Int)) (q0n : n0 = l0.length) (q0m : n0 ≤ 9223372036854775807) (q0c : NumsAt W o0 l0) (o1 : Option Addr) (n1 c1 : Nat) (l1 : List (Int)) (q1n : n1 = l1.length) (q1m : n1 ≤ 9223372036854775807) (q1c : NumsAt W o1 l1) :
    Calls Try.prog 3 #[.slice o0 n0 c0, .slice o1 n1 c1] W fun e w' => e = .returned (.bool true) ∧ Below W.heap.size W w' := by
  have Hn0 := Lib.hid q0n
  have Hc0 := Lib.hid q0c
  clear q0n q0c
  have Hn1 := Lib.hid q1n
  have Hc1 := Lib.hid q1c
  clear q1n q1c
  by_cases hs0 : n0 ≤ 1048576
  · by_cases hs1 : n1 ≤ 1048576
    · go_enter Try.func3, Try.ntmps3
      go_wp2_with fail
      refine (toIntS_any o0 c0 l0 n0 W Hn0 hs0 Hc0).mono ?_
      rintro e w1 ⟨capy0, rfl, owny0, bel1⟩
      have b1 : Below W.heap.size W w1 := bel1
      clear bel1
      have Hy0 : W.heap.size ≤ W.heap.size := Nat.le_refl _
      have Oy0 := Lib.hid owny0
      clear owny0
      have OOy0 := Oy0
      go_wp2_with fail
      refine (toIntS_any o1 c1 l1 n1 w1 Hn1 hs1 (Hc1.out.kept b1)).mono ?_
      rintro e w2 ⟨capy1, rfl, owny1, bel2⟩
      have b2 : Below W.heap.size W w2 := b1.trans (bel2.mono b1.size)
      have Oy0 := Lib.hid (own_later Oy0.out bel2)
      clear bel2
      have Hy1 : W.heap.size ≤ w1.heap.size := b1.size
      have Oy1 := Lib.hid owny1
      clear owny1
      have Ay0y1 := Lib.hid (apart_of OOy0.out Oy1.out)
      have Ay1y0 := Lib.hid (apart_of' OOy0.out Oy1.out)
      go_wp2_with fail
      refine (specTw_any w2 _ capy0 l0 n0 Hn0 hs0 (nums_at Oy0.out Hn0.out) _ capy1 l1 n1 Hn1 hs1 (nums_at Oy1.out Hn1.out)).mono ?_
      rintro e w3 ⟨rfl, bel3⟩
      have b3 : Below W.heap.size W w3 := b2.trans (bel3.mono b2.size)
      have Oy0 := Lib.hid (own_later Oy0.out bel3)
      have Oy1 := Lib.hid (own_later Oy1.out bel3)
      clear bel3
      go_wp2_with fail
      refine (toIntS_any o0 c0 l0 n0 w3 Hn0 hs0 (Hc0.out.kept b3)).mono ?_
      rintro e w4 ⟨capx0, rfl, ownx0, bel4⟩
      have b4 : Below W.heap.size W w4 := b3.trans (bel4.mono b3.size)
      clear bel4
      have Hx0 : W.heap.size ≤ w3.heap.size := b3.size
      have Ox0 := Lib.hid ownx0
      clear ownx0
      have OOx0 := Ox0
      go_wp2_with fail
      refine (toIntS_any o1 c1 l1 n1 w4 Hn1 hs1 (Hc1.out.kept b4)).mono ?_
      rintro e w5 ⟨capx1, rfl, ownx1, bel5⟩
      have b5 : Below W.heap.size W w5 := b4.trans (bel5.mono b4.size)
      have Ox0 := Lib.hid (own_later Ox0.out bel5)
      clear bel5
      have Hx1 : W.heap.size ≤ w4.heap.size := b4.size
      have Ox1 := Lib.hid ownx1
      clear ownx1
      have Ax0x1 := Lib.hid (apart_of OOx0.out Ox1.out)
      have Ax1x0 := Lib.hid (apart_of' OOx0.out Ox1.out)
      have hok : ((twB l0 l1) != (twB l0 l1)) = false := by simp
      go_wp2_with fail
      refine (implTw_any w5 _ capx0 l0 n0 Hn0 hs0 (nums_at Ox0.out Hn0.out) _ capx1 l1 n1 Hn1 hs1 (nums_at Ox1.out Hn1.out)).mono ?_
      rintro e w6 ⟨rfl, bel6⟩
      have b6 : Below W.heap.size W w6 := b5.trans (bel6.mono b5.size)
      have Ox0 := Lib.hid (own_later Ox0.out bel6)
      have Ox1 := Lib.hid (own_later Ox1.out bel6)
      clear bel6
      have hre : ((teR l0 l1) != (teR l0 l1)) = false := by simp
      have OOx0 := Ox0
      have OOx1 := Ox1
      go_wp2_with fail
      refine (toIntS_any o0 c0 l0 n0 w6 Hn0 hs0 (Hc0.out.kept b6)).mono ?_
      rintro e w7 ⟨capz0, rfl, ownz0, bel7⟩
      have b7 : Below W.heap.size W w7 := b6.trans (bel7.mono b6.size)
      have Ox0 := Lib.hid (own_later Ox0.out bel7)
      have Ox1 := Lib.hid (own_later Ox1.out bel7)
      clear bel7
      have Hz0 : W.heap.size ≤ w6.heap.size := b6.size
      have Oz0 := Lib.hid ownz0
      clear ownz0
      have Ax0z0 := Lib.hid (apart_of OOx0.out Oz0.out)
      have Az0x0 := Lib.hid (apart_of' OOx0.out Oz0.out)
      have Ax1z0 := Lib.hid (apart_of OOx1.out Oz0.out)
      have Az0x1 := Lib.hid (apart_of' OOx1.out Oz0.out)
      go_wp2_with fail
      refine (eqIntS_own _ _ l0 n0 n0 w7 Hn0.out Hn0.out (by omega) Ox0.out Oz0.out).mono ?_
      rintro e w8 ⟨rfl, bel8⟩
      have b8 : Below W.heap.size W w8 := b7.trans (bel8.mono b7.size)
      have Ox0 := Lib.hid (own_later Ox0.out bel8)
      have Ox1 := Lib.hid (own_later Ox1.out bel8)
      have Oz0 := Lib.hid (own_later Oz0.out bel8)
      clear bel8
      have OOx0 := Ox0
      have OOx1 := Ox1
      go_wp2_with fail
      refine (toIntS_any o1 c1 l1 n1 w8 Hn1 hs1 (Hc1.out.kept b8)).mono ?_
      rintro e w9 ⟨capz1, rfl, ownz1, bel9⟩
      have b9 : Below W.heap.size W w9 := b8.trans (bel9.mono b8.size)
      have Ox0 := Lib.hid (own_later Ox0.out bel9)
      have Ox1 := Lib.hid (own_later Ox1.out bel9)
      clear bel9
      have Hz1 : W.heap.size ≤ w8.heap.size := b8.size
      have Oz1 := Lib.hid ownz1
      clear ownz1
      have Ax0z1 := Lib.hid (apart_of OOx0.out Oz1.out)
      have Az1x0 := Lib.hid (apart_of' OOx0.out Oz1.out)
      have Ax1z1 := Lib.hid (apart_of OOx1.out Oz1.out)
      have Az1x1 := Lib.hid (apart_of' OOx1.out Oz1.out)
      go_wp2_with fail
      refine (eqIntS_own _ _ l1 n1 n1 w9 Hn1.out Hn1.out (by omega) Ox1.out Oz1.out).mono ?_
      rintro e w10 ⟨rfl, bel10⟩
      have b10 : Below W.heap.size W w10 := b9.trans (bel10.mono b9.size)
      have Ox0 := Lib.hid (own_later Ox0.out bel10)
      have Ox1 := Lib.hid (own_later Ox1.out bel10)
      have Oz1 := Lib.hid (own_later Oz1.out bel10)
      clear bel10
      go_wp2_with fail
      go_ret
      exact ⟨rfl, b10⟩
    · go_enter Try.func3, Try.ntmps3
      go_wp2_with fail
      go_ret
      exact ⟨rfl, Below.refl _ _⟩
  · go_enter Try.func3, Try.ntmps3
    go_wp2_with fail
    go_ret
    exact ⟨rfl, Below.refl _ _⟩

end Go.Proofs.Ytcedacneagpjcaa
