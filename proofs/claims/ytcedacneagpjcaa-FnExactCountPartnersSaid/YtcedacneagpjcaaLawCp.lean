/- The walk of the law FnExactCountPartners: it answers true and turns nothing that was there. -/
import Derived.Test.YtcedacneagpjcaaCp
import Derived.Test.YtcedacneagpjcaaOpen
namespace Go.Proofs.Ytcedacneagpjcaa
open Go.ChangeShapes Go.WideShapes Go.ChangeAt Go.RowKit
set_option linter.unusedVariables false

set_option maxRecDepth 20000 in
theorem walkCp (W : World) (o0 : Option Addr) (n0 c0 : Nat) (l0 : List (Int)) (q0n : n0 = l0.length) (q0m : n0 ≤ 9223372036854775807) (q0c : NumsAt W o0 l0) :
    Calls Try.prog 7 #[.slice o0 n0 c0] W fun e w' => e = .returned (.bool true) ∧ Below W.heap.size W w' := by
  have Hn0 := Lib.hid q0n
  have Hc0 := Lib.hid q0c
  clear q0n q0c
  by_cases hs0 : n0 ≤ 1048576
  · go_enter Try.func7, Try.ntmps7
    go_wp2_with fail
    refine (toIntS_any o0 c0 l0 n0 W Hn0 hs0 Hc0).mono ?_
    rintro e w1 ⟨capy0, rfl, owny0, bel1⟩
    have b1 : Below W.heap.size W w1 := bel1
    clear bel1
    have Hy0 : W.heap.size ≤ W.heap.size := Nat.le_refl _
    have Oy0 := Lib.hid owny0
    clear owny0
    go_wp2_with fail
    refine (specCp_any w1 _ capy0 l0 n0 Hn0 hs0 (nums_at Oy0.out Hn0.out)).mono ?_
    rintro e w2 ⟨rfl, bel2⟩
    have b2 : Below W.heap.size W w2 := b1.trans (bel2.mono b1.size)
    have Oy0 := Lib.hid (own_later Oy0.out bel2)
    clear bel2
    go_wp2_with fail
    refine (toIntS_any o0 c0 l0 n0 w2 Hn0 hs0 (Hc0.out.kept b2)).mono ?_
    rintro e w3 ⟨capx0, rfl, ownx0, bel3⟩
    have b3 : Below W.heap.size W w3 := b2.trans (bel3.mono b2.size)
    clear bel3
    have Hx0 : W.heap.size ≤ w2.heap.size := b2.size
    have Ox0 := Lib.hid ownx0
    clear ownx0
    have hok : ((okC l0) != (okC l0)) = false := by simp
    go_wp2_with fail
    refine (implCp_any w3 _ capx0 l0 n0 Hn0 hs0 (nums_at Ox0.out Hn0.out)).mono ?_
    rintro e w4 ⟨rfl, bel4⟩
    have b4 : Below W.heap.size W w4 := b3.trans (bel4.mono b3.size)
    have Ox0 := Lib.hid (own_later Ox0.out bel4)
    clear bel4
    have hre : ((cpR l0) != (cpR l0)) = false := by simp
    have OOx0 := Ox0
    go_wp2_with fail
    refine (toIntS_any o0 c0 l0 n0 w4 Hn0 hs0 (Hc0.out.kept b4)).mono ?_
    rintro e w5 ⟨capz0, rfl, ownz0, bel5⟩
    have b5 : Below W.heap.size W w5 := b4.trans (bel5.mono b4.size)
    have Ox0 := Lib.hid (own_later Ox0.out bel5)
    clear bel5
    have Hz0 : W.heap.size ≤ w4.heap.size := b4.size
    have Oz0 := Lib.hid ownz0
    clear ownz0
    have Ax0z0 := Lib.hid (apart_of OOx0.out Oz0.out)
    have Az0x0 := Lib.hid (apart_of' OOx0.out Oz0.out)
    go_wp2_with fail
    refine (eqIntS_own _ _ l0 n0 n0 w5 Hn0.out Hn0.out (by omega) Ox0.out Oz0.out).mono ?_
    rintro e w6 ⟨rfl, bel6⟩
    have b6 : Below W.heap.size W w6 := b5.trans (bel6.mono b5.size)
    have Ox0 := Lib.hid (own_later Ox0.out bel6)
    have Oz0 := Lib.hid (own_later Oz0.out bel6)
    clear bel6
    go_wp2_with fail
    go_ret
    exact ⟨rfl, b6⟩
  · go_enter Try.func7, Try.ntmps7
    go_wp2_with fail
    go_ret
    exact ⟨rfl, Below.refl _ _⟩

end Go.Proofs.Ytcedacneagpjcaa
