/- The law on SendsText, walked. -/
import Derived.Test.YtmhpbabpdhkmdaaDoorTxI
import Derived.Test.YtmhpbabpdhkmdaaDoorSz
import Derived.Test.YtmhpbabpdhkmdaaDoorSndH
namespace Go.Proofs.YtmhpbabpdhkmdaaDoor
open Go.ChangeShapes Go.WideShapes Go.ChangeAt Go.RowKit
set_option linter.unusedVariables false

set_option maxRecDepth 20000 in
theorem lawSendsTextS (W : World) (o0 : Option Addr) (n0 c0 : Nat) (l0 : List Snd) (q0n : n0 = l0.length) (q0m : n0 ≤ 9223372036854775807) (q0c : SendsAt W o0 l0) (hs0 : n0 ≤ 1048576) :
    Calls Tryd.prog 3 #[.slice o0 n0 c0] W fun e w' => e = .returned (.bool true) ∧ Below W.heap.size W w' := by
  have Hn0 := Lib.hid q0n
  have Hc0 := Lib.hid q0c
  clear q0n q0c
  have hok : ((smB l0) != (smB l0)) = false := by simp
  go_enter Tryd.func3, Tryd.ntmps3
  have hdl0 : decide ((1048576 : Int) - (n0 : Int) < 0) = false := by simp; omega
  go_wp2_with fail
  refine (sz20_fit o0 n0 c0 W hs0).mono ?_
  rintro e w' ⟨rfl, rfl⟩
  go_wp2_with fail
  refine (toSendS_any o0 c0 l0 n0 W Hn0 hs0 Hc0).mono ?_
  rintro e w1 ⟨capy0, rfl, owny0, bel1⟩
  have s1 := bel1.size
  have b1 : Below W.heap.size W w1 := bel1
  have Oy0 := Lib.hid owny0
  clear owny0 bel1
  go_wp2_with fail
  refine (specST_any w1 _ capy0 l0 n0 Hn0 hs0 (own_cap3 Oy0.out) (sown_at Oy0.out Hn0.out)).mono ?_
  rintro e w2 ⟨rfl, bel2⟩
  have s2 := bel2.size
  have b2 : Below W.heap.size W w2 := b1.trans (bel2.mono b1.size)
  have Oy0 := Lib.hid (own_later Oy0.out bel2)
  clear bel2
  clear Oy0
  have hW2 := b2.size
  go_wp2_with fail
  refine (toSendS_any o0 c0 l0 n0 w2 Hn0 hs0 (Hc0.out.kept b2)).mono ?_
  rintro e w3 ⟨capx0, rfl, ownx0, bel3⟩
  have s3 := bel3.size
  have d3 : Below w2.heap.size w2 w3 := bel3
  have Ox0 := Lib.hid ownx0
  clear ownx0 bel3
  have OX0 := Ox0
  go_wp2_with fail
  refine (implST_any w3 _ capx0 l0 n0 Hn0 hs0 (own_cap3 Ox0.out) (sown_at Ox0.out Hn0.out)).mono ?_
  rintro e w4 ⟨rfl, bel4⟩
  have s4 := bel4.size
  have d4 : Below w2.heap.size w2 w4 := d3.trans (bel4.mono d3.size)
  have Ox0 := Lib.hid (own_later Ox0.out bel4)
  clear bel4
  go_wp2_with fail
  refine (toSendS_any o0 c0 l0 n0 w4 Hn0 hs0 (Hc0.out.kept (b2.trans (d4.mono hW2)))).mono ?_
  rintro e w5 ⟨capz0, rfl, ownz0, bel5⟩
  have s5 := bel5.size
  have d5 : Below w2.heap.size w2 w5 := d4.trans (bel5.mono d4.size)
  have Ox0 := Lib.hid (own_later Ox0.out bel5)
  have Oz0 := Lib.hid ownz0
  clear ownz0 bel5
  go_wp2_with fail
  refine (eqSendS_own _ _ l0 n0 n0 w5 Hn0.out Hn0.out (by omega) Ox0.out Oz0.out).mono ?_
  rintro e w6 ⟨rfl, bel6⟩
  have s6 := bel6.size
  have d6 : Below w2.heap.size w2 w6 := d5.trans (bel6.mono d5.size)
  have Ox0 := Lib.hid (own_later Ox0.out bel6)
  clear bel6 Oz0
  go_wp2_with fail
  go_ret
  exact ⟨rfl, (b2.trans (d6.mono hW2))⟩

set_option maxRecDepth 20000 in
theorem lawSendsText (W : World) (o0 : Option Addr) (n0 c0 : Nat) (l0 : List Snd) (q0n : n0 = l0.length) (q0m : n0 ≤ 9223372036854775807) (q0c : SendsAt W o0 l0) :
    Calls Tryd.prog 3 #[.slice o0 n0 c0] W fun e w' => e = .returned (.bool true) ∧ Below W.heap.size W w' := by
  by_cases hs0 : n0 ≤ 1048576
  · exact lawSendsTextS W o0 n0 c0 l0 q0n q0m q0c hs0
  · have hbg : decide ((n0 : Int) > 1048576) = true := by simp; omega
    clear q0n q0c
    go_enter Tryd.func3, Tryd.ntmps3
    go_wp2_with fail
    refine (sz20_over o0 n0 c0 W (by omega) q0m).mono ?_
    rintro e w' ⟨rfl, rfl⟩
    go_wp2_with fail
    go_ret
    exact ⟨rfl, Below.refl _ _⟩

end Go.Proofs.YtmhpbabpdhkmdaaDoor
