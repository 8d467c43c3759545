/- The walk of the law FnExactSizesTell: it answers true and turns nothing that was there. -/
import Derived.Test.YtcedacneagpjcaaStS
import Derived.Test.YtcedacneagpjcaaStI
import Derived.Test.YtcedacneagpjcaaOpen
namespace Go.Proofs.Ytcedacneagpjcaa
open Go.ChangeShapes Go.WideShapes Go.ChangeAt Go.RowKit
set_option linter.unusedVariables false

set_option maxRecDepth 20000 in
theorem walkStl (W : World) (a0 : Int) (_w0 : (Lit.int .i64 a0).wf = true) (o1 : Option Addr) (n1 c1 : Nat) (l1 : List (Int)) (q1n : n1 = l1.length) (q1m : n1 ≤ 9223372036854775807) (q1c : NumsAt W o1 l1) (o2 : Option Addr) (n2 c2 : Nat) (l2 : List (Int)) (q2n : n2 = l2.length) (q2m : n2 ≤ 9223372036854775807) (q2c : NumsAt W o2 l2) :
    Calls Try.prog 6 #[.int .i64 a0, .slice o1 n1 c1, .slice o2 n2 c2] W fun e w' => e = .returned (.bool true) ∧ Below W.heap.size W w' := by
  have Hn1 := Lib.hid q1n
  have Hc1 := Lib.hid q1c
  clear q1n q1c
  have Hn2 := Lib.hid q2n
  have Hc2 := Lib.hid q2c
  clear q2n q2c
  by_cases hs1 : n1 ≤ 1048576
  · by_cases hs2 : n2 ≤ 1048576
    · go_enter Try.func6, Try.ntmps6
      go_wp2_with fail
      refine (toIntS_any o1 c1 l1 n1 W Hn1 hs1 Hc1).mono ?_
      rintro e w1 ⟨capy1, rfl, owny1, bel1⟩
      have b1 : Below W.heap.size W w1 := bel1
      clear bel1
      have Hy1 : W.heap.size ≤ W.heap.size := Nat.le_refl _
      have Oy1 := Lib.hid owny1
      clear owny1
      have OOy1 := Oy1
      go_wp2_with fail
      refine (toIntS_any o2 c2 l2 n2 w1 Hn2 hs2 (Hc2.out.kept b1)).mono ?_
      rintro e w2 ⟨capy2, rfl, owny2, bel2⟩
      have b2 : Below W.heap.size W w2 := b1.trans (bel2.mono b1.size)
      have Oy1 := Lib.hid (own_later Oy1.out bel2)
      clear bel2
      have Hy2 : W.heap.size ≤ w1.heap.size := b1.size
      have Oy2 := Lib.hid owny2
      clear owny2
      have Ay1y2 := Lib.hid (apart_of OOy1.out Oy2.out)
      have Ay2y1 := Lib.hid (apart_of' OOy1.out Oy2.out)
      go_wp2_with fail
      refine (specStl_any w2 a0 _ capy1 l1 n1 Hn1 hs1 (nums_at Oy1.out Hn1.out) _ capy2 l2 n2 Hn2 hs2 (nums_at Oy2.out Hn2.out)).mono ?_
      rintro e w3 ⟨rfl, bel3⟩
      have b3 : Below W.heap.size W w3 := b2.trans (bel3.mono b2.size)
      have Oy1 := Lib.hid (own_later Oy1.out bel3)
      have Oy2 := Lib.hid (own_later Oy2.out bel3)
      clear bel3
      go_wp2_with fail
      refine (toIntS_any o1 c1 l1 n1 w3 Hn1 hs1 (Hc1.out.kept b3)).mono ?_
      rintro e w4 ⟨capx1, rfl, ownx1, bel4⟩
      have b4 : Below W.heap.size W w4 := b3.trans (bel4.mono b3.size)
      clear bel4
      have Hx1 : W.heap.size ≤ w3.heap.size := b3.size
      have Ox1 := Lib.hid ownx1
      clear ownx1
      have OOx1 := Ox1
      go_wp2_with fail
      refine (toIntS_any o2 c2 l2 n2 w4 Hn2 hs2 (Hc2.out.kept b4)).mono ?_
      rintro e w5 ⟨capx2, rfl, ownx2, bel5⟩
      have b5 : Below W.heap.size W w5 := b4.trans (bel5.mono b4.size)
      have Ox1 := Lib.hid (own_later Ox1.out bel5)
      clear bel5
      have Hx2 : W.heap.size ≤ w4.heap.size := b4.size
      have Ox2 := Lib.hid ownx2
      clear ownx2
      have Ax1x2 := Lib.hid (apart_of OOx1.out Ox2.out)
      have Ax2x1 := Lib.hid (apart_of' OOx1.out Ox2.out)
      have hok : ((stOk a0 l1 l2) != (stOk a0 l1 l2)) = false := by simp
      go_wp2_with fail
      refine (implStl_any w5 a0 _ capx1 l1 n1 Hn1 hs1 (nums_at Ox1.out Hn1.out) _ capx2 l2 n2 Hn2 hs2 (nums_at Ox2.out Hn2.out)).mono ?_
      rintro e w6 ⟨rfl, bel6⟩
      have b6 : Below W.heap.size W w6 := b5.trans (bel6.mono b5.size)
      have Ox1 := Lib.hid (own_later Ox1.out bel6)
      have Ox2 := Lib.hid (own_later Ox2.out bel6)
      clear bel6
      have hre : ((stR a0 l1 l2) != (stR a0 l1 l2)) = false := by simp
      have OOx1 := Ox1
      have OOx2 := Ox2
      go_wp2_with fail
      refine (toIntS_any o1 c1 l1 n1 w6 Hn1 hs1 (Hc1.out.kept b6)).mono ?_
      rintro e w7 ⟨capz1, rfl, ownz1, bel7⟩
      have b7 : Below W.heap.size W w7 := b6.trans (bel7.mono b6.size)
      have Ox1 := Lib.hid (own_later Ox1.out bel7)
      have Ox2 := Lib.hid (own_later Ox2.out bel7)
      clear bel7
      have Hz1 : W.heap.size ≤ w6.heap.size := b6.size
      have Oz1 := Lib.hid ownz1
      clear ownz1
      have Ax1z1 := Lib.hid (apart_of OOx1.out Oz1.out)
      have Az1x1 := Lib.hid (apart_of' OOx1.out Oz1.out)
      have Ax2z1 := Lib.hid (apart_of OOx2.out Oz1.out)
      have Az1x2 := Lib.hid (apart_of' OOx2.out Oz1.out)
      go_wp2_with fail
      refine (eqIntS_own _ _ l1 n1 n1 w7 Hn1.out Hn1.out (by omega) Ox1.out Oz1.out).mono ?_
      rintro e w8 ⟨rfl, bel8⟩
      have b8 : Below W.heap.size W w8 := b7.trans (bel8.mono b7.size)
      have Ox1 := Lib.hid (own_later Ox1.out bel8)
      have Ox2 := Lib.hid (own_later Ox2.out bel8)
      have Oz1 := Lib.hid (own_later Oz1.out bel8)
      clear bel8
      have OOx1 := Ox1
      have OOx2 := Ox2
      go_wp2_with fail
      refine (toIntS_any o2 c2 l2 n2 w8 Hn2 hs2 (Hc2.out.kept b8)).mono ?_
      rintro e w9 ⟨capz2, rfl, ownz2, bel9⟩
      have b9 : Below W.heap.size W w9 := b8.trans (bel9.mono b8.size)
      have Ox1 := Lib.hid (own_later Ox1.out bel9)
      have Ox2 := Lib.hid (own_later Ox2.out bel9)
      clear bel9
      have Hz2 : W.heap.size ≤ w8.heap.size := b8.size
      have Oz2 := Lib.hid ownz2
      clear ownz2
      have Ax1z2 := Lib.hid (apart_of OOx1.out Oz2.out)
      have Az2x1 := Lib.hid (apart_of' OOx1.out Oz2.out)
      have Ax2z2 := Lib.hid (apart_of OOx2.out Oz2.out)
      have Az2x2 := Lib.hid (apart_of' OOx2.out Oz2.out)
      go_wp2_with fail
      refine (eqIntS_own _ _ l2 n2 n2 w9 Hn2.out Hn2.out (by omega) Ox2.out Oz2.out).mono ?_
      rintro e w10 ⟨rfl, bel10⟩
      have b10 : Below W.heap.size W w10 := b9.trans (bel10.mono b9.size)
      have Ox1 := Lib.hid (own_later Ox1.out bel10)
      have Ox2 := Lib.hid (own_later Ox2.out bel10)
      have Oz2 := Lib.hid (own_later Oz2.out bel10)
      clear bel10
      go_wp2_with fail
      go_ret
      exact ⟨rfl, b10⟩
    · go_enter Try.func6, Try.ntmps6
      go_wp2_with fail
      go_ret
      exact ⟨rfl, Below.refl _ _⟩
  · go_enter Try.func6, Try.ntmps6
    go_wp2_with fail
    go_ret
    exact ⟨rfl, Below.refl _ _⟩

end Go.Proofs.Ytcedacneagpjcaa
