/- The law on PassedOn, walked. -/
import Derived.Test.YtaangjidkkpogaaDoorPoW
import Derived.Test.YtaangjidkkpogaaDoorToI
namespace Go.Proofs.YtaangjidkkpogaaDoor
open Go.ChangeShapes Go.WideShapes Go.ChangeAt Go.RowKit
set_option linter.unusedVariables false

set_option maxRecDepth 20000 in
theorem lawPassedOnS (W : World) (a0 : ByteArray) (_w0 : a0.size ≤ maxLen) (o1 : Option Addr) (n1 c1 : Nat) (l1 : List Int) (q1n : n1 = l1.length) (q1m : n1 ≤ 9223372036854775807) (q1c : NumsAt W o1 l1) (a2 : Bool) (hs0 : a0.size ≤ 1048576) (hs1 : n1 ≤ 1048576) :
    Calls Tryd.prog 5 #[.string a0, .slice o1 n1 c1, .bool a2] W fun e w' => e = .returned (.bool true) ∧ Below W.heap.size W w' := by
  have Hn1 := Lib.hid q1n
  have Hc1 := Lib.hid q1c
  clear q1n q1c
  have hok : ((poB a0 l1 a2) != (poB a0 l1 a2)) = false := by simp
  have hre : ((poR a0 l1 a2) != (poR a0 l1 a2)) = false := by simp
  have hbg0 : decide ((a0.size : Int) > 1048576) = false := by simp; omega
  go_enter Tryd.func5, Tryd.ntmps5
  go_wp2_with fail
  refine (toIntS_any o1 c1 l1 n1 W Hn1 hs1 Hc1).mono ?_
  rintro e w1 ⟨capy1, rfl, owny1, bel1⟩
  have s1 := bel1.size
  have b1 : Below W.heap.size W w1 := bel1
  have Oy1 := Lib.hid owny1
  clear owny1 bel1
  go_wp2_with fail
  refine (specPO_w w1 a0 hs0 _ capy1 l1 n1 Hn1 hs1 (nums_at Oy1.out Hn1.out) a2).mono ?_
  rintro e w2 ⟨rfl, bel2⟩
  have s2 := bel2.size
  have b2 : Below W.heap.size W w2 := b1.trans (bel2.mono b1.size)
  have Oy1 := Lib.hid (own_later Oy1.out bel2)
  clear bel2
  clear Oy1
  have hW2 := b2.size
  go_wp2_with fail
  refine (toIntS_any o1 c1 l1 n1 w2 Hn1 hs1 (Hc1.out.kept b2)).mono ?_
  rintro e w3 ⟨capx1, rfl, ownx1, bel3⟩
  have s3 := bel3.size
  have d3 : Below w2.heap.size w2 w3 := bel3
  have Ox1 := Lib.hid ownx1
  clear ownx1 bel3
  have OX1 := Ox1
  go_wp2_with fail
  refine (implPO_w w3 a0 hs0 _ capx1 l1 n1 Hn1 hs1 (nums_at Ox1.out Hn1.out) a2).mono ?_
  rintro e w4 ⟨rfl, bel4⟩
  have s4 := bel4.size
  have d4 : Below w2.heap.size w2 w4 := d3.trans (bel4.mono d3.size)
  have Ox1 := Lib.hid (own_later Ox1.out bel4)
  clear bel4
  go_wp2_with fail
  refine (toIntS_any o1 c1 l1 n1 w4 Hn1 hs1 (Hc1.out.kept (b2.trans (d4.mono hW2)))).mono ?_
  rintro e w5 ⟨capz1, rfl, ownz1, bel5⟩
  have s5 := bel5.size
  have d5 : Below w2.heap.size w2 w5 := d4.trans (bel5.mono d4.size)
  have Ox1 := Lib.hid (own_later Ox1.out bel5)
  have Oz1 := Lib.hid ownz1
  clear ownz1 bel5
  go_wp2_with fail
  refine (eqIntS_own _ _ l1 n1 n1 w5 Hn1.out Hn1.out (by omega) Ox1.out Oz1.out).mono ?_
  rintro e w6 ⟨rfl, bel6⟩
  have s6 := bel6.size
  have d6 : Below w2.heap.size w2 w6 := d5.trans (bel6.mono d5.size)
  have Ox1 := Lib.hid (own_later Ox1.out bel6)
  clear bel6 Oz1
  go_wp2_with fail
  go_ret
  exact ⟨rfl, (b2.trans (d6.mono hW2))⟩

set_option maxRecDepth 20000 in
theorem lawPassedOn (W : World) (a0 : ByteArray) (_w0 : a0.size ≤ maxLen) (o1 : Option Addr) (n1 c1 : Nat) (l1 : List Int) (q1n : n1 = l1.length) (q1m : n1 ≤ 9223372036854775807) (q1c : NumsAt W o1 l1) (a2 : Bool) :
    Calls Tryd.prog 5 #[.string a0, .slice o1 n1 c1, .bool a2] W fun e w' => e = .returned (.bool true) ∧ Below W.heap.size W w' := by
  by_cases hs0 : a0.size ≤ 1048576
  · by_cases hs1 : n1 ≤ 1048576
    · exact lawPassedOnS W a0 _w0 o1 n1 c1 l1 q1n q1m q1c a2 hs0 hs1
    · have hbg : decide ((n1 : Int) > 1048576) = true := by simp; omega
      go_enter Tryd.func5, Tryd.ntmps5
      go_wp2_with fail
      go_ret
      exact ⟨rfl, Below.refl _ _⟩
  · have hbg : decide ((a0.size : Int) > 1048576) = true := by simp; omega
    go_enter Tryd.func5, Tryd.ntmps5
    go_wp2_with fail
    go_ret
    exact ⟨rfl, Below.refl _ _⟩

end Go.Proofs.YtaangjidkkpogaaDoor
