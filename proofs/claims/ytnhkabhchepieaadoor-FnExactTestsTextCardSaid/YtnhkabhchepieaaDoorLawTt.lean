/- The walk of the law FnExactTestsText. -/
import Derived.Test.YtnhkabhchepieaaDoorTxI
import Derived.Test.YtnhkabhchepieaaDoorRowsI
namespace Go.Proofs.YtnhkabhchepieaaDoor
open Go.ChangeShapes Go.WideShapes Go.ChangeAt Go.RowKit
set_option linter.unusedVariables false

set_option maxRecDepth 20000 in
theorem walkTt (W : World) (o0 : Option Addr) (n0 c0 : Nat) (l0 : List (List Int)) (q0n : n0 = l0.length) (q0m : n0 ≤ 9223372036854775807) (q0L : ∀ i, (row l0 i).length ≤ 9223372036854775807) (q0c : RowsAt W o0 l0) :
    Calls Tryd.prog 3 #[.slice o0 n0 c0] W fun e w' => e = .returned (.bool true) ∧ Below W.heap.size W w' := by
  have Hn0 := Lib.hid q0n
  have Hc0 := Lib.hid q0c
  have HL0 := Lib.hid q0L
  clear q0n q0c q0L
  have hok : ((tsB l0) != (tsB l0)) = false := by simp
  go_enter Tryd.func3, Tryd.ntmps3
  go_wp2_with fail
  refine (szIntSS_any o0 c0 l0 n0 (1048576) W (by omega) (by omega) Hn0.out q0m HL0.out Hc0.out).mono ?_
  rintro e w' ⟨r0, rfl, rfl, hr0⟩
  by_cases hr0n : r0 < 0
  · have hd : decide (r0 < 0) = true := by simpa using hr0n
    clear hr0
    go_wp2_with fail
    go_ret
    exact ⟨rfl, Below.refl _ _⟩
  have hq0 := hr0 (by omega)
  have hd0 : decide (r0 < 0) = false := by simpa using hr0n
  have hs0 : n0 ≤ 1048576 := by omega
  have hct0 : ctot l0 l0.length ≤ 1048576 := by rw [← Hn0.out]; omega
  have HS0 : Hid (∀ i, (row l0 i).length ≤ 1048576) := fun i => Nat.le_trans (row_le_ctot l0 i) hct0
  have hr00 : 0 ≤ r0 := by omega
  clear hr0 hr0n
  have hr01 : r0 ≤ 1048576 := by omega
  go_wp2_with fail
  refine (toIntSS_any o0 c0 l0 n0 W Hn0 hs0 HS0 Hc0).mono ?_
  rintro e w1 ⟨capy0, Xy0, rfl, owny0, bel1⟩
  have s1 := bel1.size
  have b1 : Below W.heap.size W w1 := bel1
  have Oy0 := Lib.hid owny0
  clear owny0 bel1
  go_wp2_with fail
  refine (specTt_any w1 _ capy0 l0 n0 Hn0 hs0 HS0 (rows_own Oy0.out)).mono ?_
  rintro e w2 ⟨rfl, bel2⟩
  have s2 := bel2.size
  have b2 : Below W.heap.size W w2 := b1.trans (bel2.mono b1.size)
  have Oy0 := Lib.hid (Oy0.out.later bel2)
  clear bel2
  clear Oy0
  have hW2 := b2.size
  go_wp2_with fail
  refine (toIntSS_any o0 c0 l0 n0 w2 Hn0 hs0 HS0 (Hc0.out.kept b2)).mono ?_
  rintro e w3 ⟨capx0, Xx0, rfl, ownx0, bel3⟩
  have s3 := bel3.size
  have d3 : Below w2.heap.size w2 w3 := bel3
  have Ox0 := Lib.hid ownx0
  clear ownx0 bel3
  have OX0 := Ox0
  go_wp2_with fail
  refine (implTt_any w3 _ capx0 l0 n0 Hn0 hs0 HS0 (rows_own Ox0.out)).mono ?_
  rintro e w4 ⟨rfl, bel4⟩
  have s4 := bel4.size
  have d4 : Below w2.heap.size w2 w4 := d3.trans (bel4.mono d3.size)
  have Ox0 := Lib.hid (Ox0.out.later bel4)
  clear bel4
  go_wp2_with fail
  refine (toIntSS_any o0 c0 l0 n0 w4 Hn0 hs0 HS0 (Hc0.out.kept (b2.trans (d4.mono hW2)))).mono ?_
  rintro e w5 ⟨capz0, Xz0, rfl, ownz0, bel5⟩
  have s5 := bel5.size
  have d5 : Below w2.heap.size w2 w5 := d4.trans (bel5.mono d4.size)
  have Ox0 := Lib.hid (Ox0.out.later bel5)
  have Oz0 := Lib.hid ownz0
  clear ownz0 bel5
  go_wp2_with fail
  refine (eqIntSS_own _ _ Xx0 Xz0 l0 w5 (by rw [← Hn0.out]; exact hs0) (fun i _ => HS0.out i) Ox0.out Oz0.out).mono ?_
  rintro e w6 ⟨rfl, bel6⟩
  have s6 := bel6.size
  have d6 : Below w2.heap.size w2 w6 := d5.trans (bel6.mono d5.size)
  have Ox0 := Lib.hid (Ox0.out.later bel6)
  clear bel6 Oz0
  go_wp2_with fail
  go_ret
  exact ⟨rfl, (b2.trans (d6.mono hW2))⟩

end Go.Proofs.YtnhkabhchepieaaDoor
