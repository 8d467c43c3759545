/- The law on StepsTo, walked. -/
import Derived.Test.YtghfkgbmmkcjhaaStp
import Derived.Test.YtghfkgbmmkcjhaaSz
import Derived.Test.YtghfkgbmmkcjhaaInts
import Derived.Test.YtghfkgbmmkcjhaaUp
namespace Go.Proofs.Ytghfkgbmmkcjhaa
open Go.ChangeShapes Go.WideShapes Go.ChangeAt Go.RowKit
set_option linter.unusedVariables false

set_option maxRecDepth 20000 in
theorem lawStepsToS (W : World) (a0 : Int) (_w0 : (Lit.int .i64 a0).wf = true) (a1 : Int) (_w1 : (Lit.int .i64 a1).wf = true) (o2 : Option Addr) (n2 c2 : Nat) (l2 : List Snd) (q2n : n2 = l2.length) (q2m : n2 ≤ 9223372036854775807) (q2c : SendsAt W o2 l2) (a3 : Int) (_w3 : (Lit.int .i64 a3).wf = true) (hs2 : n2 ≤ 1048576) :
    Calls Try.prog 13 #[.int .i64 a0, .int .i64 a1, .slice o2 n2 c2, .int .i64 a3] W fun e w' => e = .returned (.bool true) ∧ Below W.heap.size W w' := by
  have Hn2 := Lib.hid q2n
  have Hc2 := Lib.hid q2c
  clear q2n q2c
  have hok : ((spB a0 a1 l2 a3) != (spB a0 a1 l2 a3)) = false := by simp
  have hre : ((spR a0 a1 l2 a3) != (spR a0 a1 l2 a3)) = false := by simp
  go_enter Try.func13, Try.ntmps13
  have hdl2 : decide ((1048576 : Int) - (n2 : Int) < 0) = false := by simp; omega
  go_wp2_with fail
  refine (sz20_fit o2 n2 c2 W hs2).mono ?_
  rintro e w' ⟨rfl, rfl⟩
  go_wp2_with fail
  refine (toSendS_any o2 c2 l2 n2 W Hn2 hs2 Hc2).mono ?_
  rintro e w1 ⟨capy2, rfl, owny2, bel1⟩
  have s1 := bel1.size
  have b1 : Below W.heap.size W w1 := bel1
  have Oy2 := Lib.hid owny2
  clear owny2 bel1
  go_wp2_with fail
  refine (specST_any w1 a0 a1 _ capy2 l2 n2 Hn2 hs2 (own_cap3 Oy2.out) (sown_at Oy2.out Hn2.out) a3).mono ?_
  rintro e w2 ⟨rfl, bel2⟩
  have s2 := bel2.size
  have b2 : Below W.heap.size W w2 := b1.trans (bel2.mono b1.size)
  have Oy2 := Lib.hid (own_later Oy2.out bel2)
  clear bel2
  clear Oy2
  have hW2 := b2.size
  go_wp2_with fail
  refine (toSendS_any o2 c2 l2 n2 w2 Hn2 hs2 (Hc2.out.kept b2)).mono ?_
  rintro e w3 ⟨capx2, rfl, ownx2, bel3⟩
  have s3 := bel3.size
  have d3 : Below w2.heap.size w2 w3 := bel3
  have Ox2 := Lib.hid ownx2
  clear ownx2 bel3
  have OX2 := Ox2
  go_wp2_with fail
  refine (implST_any w3 a0 a1 _ capx2 l2 n2 Hn2 hs2 (own_cap3 Ox2.out) (sown_at Ox2.out Hn2.out) a3).mono ?_
  rintro e w4 ⟨rfl, bel4⟩
  have s4 := bel4.size
  have d4 : Below w2.heap.size w2 w4 := d3.trans (bel4.mono d3.size)
  have Ox2 := Lib.hid (own_later Ox2.out bel4)
  clear bel4
  go_wp2_with fail
  refine (toSendS_any o2 c2 l2 n2 w4 Hn2 hs2 (Hc2.out.kept (b2.trans (d4.mono hW2)))).mono ?_
  rintro e w5 ⟨capz2, rfl, ownz2, bel5⟩
  have s5 := bel5.size
  have d5 : Below w2.heap.size w2 w5 := d4.trans (bel5.mono d4.size)
  have Ox2 := Lib.hid (own_later Ox2.out bel5)
  have Oz2 := Lib.hid ownz2
  clear ownz2 bel5
  go_wp2_with fail
  refine (eqSendS_own _ _ l2 n2 n2 w5 Hn2.out Hn2.out (by omega) Ox2.out Oz2.out).mono ?_
  rintro e w6 ⟨rfl, bel6⟩
  have s6 := bel6.size
  have d6 : Below w2.heap.size w2 w6 := d5.trans (bel6.mono d5.size)
  have Ox2 := Lib.hid (own_later Ox2.out bel6)
  clear bel6 Oz2
  go_wp2_with fail
  go_ret
  exact ⟨rfl, (b2.trans (d6.mono hW2))⟩

set_option maxRecDepth 20000 in
theorem lawStepsTo (W : World) (a0 : Int) (_w0 : (Lit.int .i64 a0).wf = true) (a1 : Int) (_w1 : (Lit.int .i64 a1).wf = true) (o2 : Option Addr) (n2 c2 : Nat) (l2 : List Snd) (q2n : n2 = l2.length) (q2m : n2 ≤ 9223372036854775807) (q2c : SendsAt W o2 l2) (a3 : Int) (_w3 : (Lit.int .i64 a3).wf = true) :
    Calls Try.prog 13 #[.int .i64 a0, .int .i64 a1, .slice o2 n2 c2, .int .i64 a3] W fun e w' => e = .returned (.bool true) ∧ Below W.heap.size W w' := by
  by_cases hs2 : n2 ≤ 1048576
  · exact lawStepsToS W a0 _w0 a1 _w1 o2 n2 c2 l2 q2n q2m q2c a3 _w3 hs2
  · have hbg : decide ((n2 : Int) > 1048576) = true := by simp; omega
    clear q2n q2c
    go_enter Try.func13, Try.ntmps13
    go_wp2_with fail
    refine (sz20_over o2 n2 c2 W (by omega) q2m).mono ?_
    rintro e w' ⟨rfl, rfl⟩
    go_wp2_with fail
    go_ret
    exact ⟨rfl, Below.refl _ _⟩

end Go.Proofs.Ytghfkgbmmkcjhaa
