/- The walk of the law FnExactHalvesSearch. -/
import Derived.Test.YtejmlhhblckddaaHsI
import Derived.Test.YtejmlhhblckddaaHsS
import Derived.Test.YtejmlhhblckddaaMarkUp
namespace Go.Proofs.Ytejmlhhblckddaa
open Go.ChangeShapes Go.WideShapes Go.ChangeAt Go.RowKit
set_option linter.unusedVariables false

set_option maxRecDepth 20000 in
theorem walkHs (W : World) (a0 : Int) (_w0 : (Lit.int .i64 a0).wf = true) (a1 : Int) (_w1 : (Lit.int .i64 a1).wf = true) :
    Calls Try.prog 9 #[.int .i64 a0, .int .i64 a1] W fun e w' => e = .returned (.bool true) ∧ Below W.heap.size W w' := by
  have hRl := hsR_length a0 a1
  have HRr := Lib.hid (hsR_row a0 a1)
  have HRr2 : Hid (∀ i, i < (hsR a0 a1).length → (row (hsR a0 a1) i).length ≤ 1048576) := fun i _ => Nat.le_trans (HRr.out i) (by omega)
  have hok : ((hsB a0 a1) != (hsB a0 a1)) = false := by simp
  go_enter Try.func9, Try.ntmps9
  go_wp2_with fail
  refine (specHs_any W a0 a1).mono ?_
  rintro e w1 ⟨vw, Xvw, rfl, ownvw, bel1⟩
  have s1 := bel1.size
  have b1 : Below W.heap.size W w1 := bel1
  have Ovw := Lib.hid ownvw
  clear ownvw
  clear bel1
  have hW2 := b1.size
  have OW := Ovw
  go_wp2_with fail
  refine (implHs_any w1 a0 a1).mono ?_
  rintro e w2 ⟨vg, Xvg, rfl, ownvg, bel2⟩
  have s2 := bel2.size
  have d2 : Below w1.heap.size w1 w2 := bel2
  have Ovg := Lib.hid ownvg
  clear ownvg
  clear bel2
  have Ovw := Lib.hid (OW.out.later d2)
  go_wp2_with fail
  refine (eqIntSS_own vg vw Xvg Xvw (hsR a0 a1) w2 (by omega) HRr2.out Ovg.out Ovw.out).mono ?_
  rintro e w3 ⟨rfl, bel3⟩
  have s3 := bel3.size
  have d3 : Below w1.heap.size w1 w3 := d2.trans (bel3.mono d2.size)
  have Ovg := Lib.hid (Ovg.out.later bel3)
  clear bel3
  go_wp2_with fail
  refine (markIntSS_any _ vg Xvg (hsR a0 a1) w3 hRl HRr.out Ovg.out).mono ?_
  rintro e w4 ⟨rfl, ownm, be4⟩
  have s4 := be4.size
  have d4 : Below w1.heap.size w1 w4 := d3.trans (be4.mono (by omega))
  have Om := Lib.hid ownm
  have hct := ctot_le HRr.out (hsR a0 a1).length
  clear ownm be4
  have hmm : ((1 + (ctot (hsR a0 a1) (hsR a0 a1).length : Int)) != (1 + (ctot (hsR a0 a1) (hsR a0 a1).length : Int))) = false := by simp
  go_wp2_with fail
  refine (heldIntSS_any _ vg Xvg (hsR a0 a1) w4 hRl HRr.out Om.out).mono ?_
  rintro e w' ⟨rfl, rfl⟩
  go_wp2_with fail
  refine (implHs_any w4 a0 a1).mono ?_
  rintro e w5 ⟨vh, Xvh, rfl, ownvh, bel5⟩
  have s5 := bel5.size
  have d5 : Below w1.heap.size w1 w5 := d4.trans (bel5.mono d4.size)
  have Om := Lib.hid (Om.out.later bel5)
  have Ovh := Lib.hid ownvh
  clear ownvh
  clear bel5
  have Ovw := Lib.hid (OW.out.later d5)
  go_wp2_with fail
  refine (eqIntSS_own vh vw Xvh Xvw (hsR a0 a1) w5 (by omega) HRr2.out Ovh.out Ovw.out).mono ?_
  rintro e w6 ⟨rfl, bel6⟩
  have s6 := bel6.size
  have d6 : Below w1.heap.size w1 w6 := d5.trans (bel6.mono d5.size)
  have Om := Lib.hid (Om.out.later bel6)
  have Ovh := Lib.hid (Ovh.out.later bel6)
  clear bel6
  go_wp2_with fail
  refine (heldIntSS_any _ vg Xvg (hsR a0 a1) w6 hRl HRr.out Om.out).mono ?_
  rintro e w' ⟨rfl, rfl⟩
  go_wp2_with fail
  go_ret
  exact ⟨rfl, (b1.trans (d6.mono hW2))⟩

end Go.Proofs.Ytejmlhhblckddaa
